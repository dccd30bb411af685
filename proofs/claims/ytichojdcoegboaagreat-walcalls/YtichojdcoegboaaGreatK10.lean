/- Several texts joined: the log, its cache and its disk, of the program and of the document; no condition. -/
import Derived.Test.YtichojdcoegboaaGreatK9
import Derived.Test.YtichojdcoegboaaGreatK4
namespace Go.Proofs.YtichojdcoegboaaGreatW
open Go.RowKit Go.Maps
theorem exec_ldBlk {o : Oper} {a : Act} {W : World} {x : Operand} {g off : Nat} {f : Nat → Int} (ho : o.op = .load 64 x) (hx : a.eval x = .pointer (some ⟨g, off, none⟩)) (h : BlkAt W g off f) : (execOp a.eval o).run Tryz.prog W = .ok (.value (.agg (blk f))) W := by
 have e := loadM h
 generalize blk f = Z at *
 unfold execOp
 simp only [ho, hx, e, Sem.run_bind, Result.andThen_ok, Sem.run_pure]
theorem atL_at (k y : Int) (f : Nat → Int) (t : List Cel) : atL ((y, f) :: t) k = if y = k then f else atL t k := rfl
set_option maxRecDepth 20000 in
set_option maxHeartbeats 4000000 in
theorem rAt_any (l : List Cel) (p0 : Option Addr) (cap : Nat) (k : Int) (w : World) (hl : l.length ≤ 1000000000) (h : ImgAt w p0 l) :
  Calls Tryz.prog 109 #[.slice p0 l.length cap, .int .i64 k] w fun e w' => e = .returned (.agg (blk (atL l k))) ∧ Below w.heap.size w w' := by
 have HI := Hid.mk' h
 clear h
 obtain ⟨N, hN⟩ : ∃ N, l.length = N := ⟨_, rfl⟩
 have HN := Hid.mk' hN
 rw [hN] at hl ⊢
 clear hN
 have z58 := zero25
 have HL0 : Hid (atL l k = atL (l.drop 0) k) := rfl
 generalize atL l k = L at *
 go_enter Tryz.func109, Tryz.ntmps109
 go_wp2
 go_loopw [5] (fun s3 wx => ∃ j : Nat, (j : Int) ≤ N ∧ s3 = .int .i64 j ∧ Hid (Below w.heap.size w wx ∧ wx.heap[w.heap.size]? = some (.cells (blk nought) 64)) ∧ Hid (L = atL (l.drop j) k)) (fun s3 _ => N - (intOf s3).toNat)
 case atStart => exact ⟨0, by omega, rfl, ⟨below_new _ _, heap_alloc_new _ _⟩, HL0.out⟩
 case round =>
  obtain ⟨j, hj, rfl, HS, HA⟩ := hrel
  clear HL0
  by_cases hj2 : (j : Int) < N
  ·have hjl : j < l.length := by have := HN.out; omega
   have hc : l[j]? = some (l[j]'hjl) := List.getElem?_eq_getElem hjl
   have hd : l.drop j = l[j]'hjl :: l.drop (j + 1) := List.drop_eq_getElem_cons hjl
   generalize l[j]'hjl = x at hc hd
   obtain ⟨b0, off, rfl, hlt, hC⟩ := HI.out (by omega)
   have HQ := Hid.mk' (show CelAt wr b0 (off + j * 1025) x from (hC.later HS.out.1 hlt) j x hc)
   have c1 := HQ.out.1
   obtain ⟨y, f⟩ := x
   dsimp only at c1
   have hA := HA.out
   rw [hd, atL_at] at hA
   have HA2 := Hid.mk' hA
   clear hd hc hC HA hA hjl
   by_cases hy : y = k
   ·have HF := Hid.mk' (show L = f from by rw [HA2.out]; simp [hy])
    have HB := Hid.mk' (show BlkAt wr b0 (off + j * 1025 + 1) f from HQ.out.2)
    subst hy
    clear HA2
    go_wp2_with (first | (with_reducible refine isLoad 64 ?_; refine wpList_exec rfl (exec_ldBlk rfl rfl HB.out) ?_) | (with_reducible refine isStore 64 ?_; refine wpList_store25 rfl _ _ rfl w.heap.size f rfl rfl nought HS.out.2 ?_))
    refine ret25 rfl w.heap.size f rfl (setRow_heap _ _ _ _ _ _ HS.out.2) rfl ⟨by rw [HF.out], below_setRow HS.out.1 (Nat.le_refl _) _⟩
   ·have HF := Hid.mk' (show L = atL (l.drop (j + 1)) k from by rw [HA2.out]; simp [hy])
    have hne : (y == k) = false := by simpa using hy
    clear HA2 hy
    go_wp2
    exact ⟨⟨j + 1, by omega, by go_num, HS.out, HF.out⟩, by simp [intOf]; omega⟩
  ·have hjN : N = j := by omega
   subst hjN
   have hd : l.drop N = [] := List.drop_eq_nil_of_le (by have := HN.out; omega)
   have HF := Hid.mk' (show L = nought from by rw [HA.out, hd]; rfl)
   clear hd HA
   go_wp2_with (with_reducible refine isStore 64 ?_; refine wpList_store25 rfl _ _ rfl w.heap.size nought rfl rfl nought HS.out.2 ?_)
   refine ret25 rfl w.heap.size nought rfl (setRow_heap _ _ _ _ _ _ HS.out.2) rfl ⟨by rw [HF.out], below_setRow HS.out.1 (Nat.le_refl _) _⟩
variable {w : World} {B g : Nat} {hv wv ov : Value} {s : RSt}
def rRefV (s : RSt) (k : Int) : Int := if s.dead then 3 else if 0 ≤ k ∧ k < s.n then 0 else 2
def rCur (s : RSt) (k : Int) : Nat → Int := match lastAt s.wait k with
 | some i => match s.wait[i]? with
  | some c => c.2
  | none => nought
 | none => atL s.held k
theorem rCur_wait {k : Int} {i : Nat} {c : Cel} (h : lastAt s.wait k = some i) (hc : s.wait[i]? = some c) : rCur s k = c.2 := by
 unfold rCur
 rw [h]
 simp only [hc]
theorem rCur_held {k : Int} (h : lastAt s.wait k = none) : rCur s k = atL s.held k := by
 unfold rCur
 rw [h]
theorem rRefV_ok {k : Int} (h : rRefV s k = 0) : s.dead = false ∧ 0 ≤ k ∧ k < s.n := by
 unfold rRefV at h
 cases hs : s.dead
 ·rw [hs] at h
  simp only [Bool.false_eq_true, if_false] at h
  by_cases hk : 0 ≤ k ∧ k < s.n
  ·exact ⟨rfl, hk⟩
  ·rw [if_neg hk] at h; omega
 ·rw [hs] at h; simp at h
theorem RDAt.box (h : RDAt w B g hv wv ov s) {q : Nat} {Z : Array Value} (hq : w.heap[q]? = some (.cells Z 64)) (cs : Array Value) : RDAt (w.setRow q cs) B g hv wv ov s :=
 ⟨(setRow_other w q g cs (box_ne h.row hq (by decide))).trans h.row, own_other h.held (own_ne h.held hq (by decide)) cs, own_other h.wait (own_ne h.wait hq (by decide)) cs, own_other h.ops (own_ne h.ops hq (by decide)) cs, h.two, h.base⟩
set_option maxRecDepth 20000 in
set_option maxHeartbeats 4000000 in
theorem rRead_bad (h : RDAt w B g hv wv ov s) {k : Int} (hb : rRefV s k ≠ 0) :
  Calls Tryz.prog 85 #[.pointer (some ⟨g, 0, none⟩), .int .i64 k] w fun e w' => e = .returned (.tuple #[.agg (blk nought), .int .i64 (rRefV s k)]) ∧ RDAt w' B g hv wv ov s ∧ Fr (fun i => i = g) w w' := by
 have H1 := Hid.mk' (h.later (below_new w (.cells (blk nought) 64)))
 have HX := Hid.mk' (heap_alloc_new w (.cells (blk nought) 64))
 have HF := Hid.mk' (Fr.alloc (fun i => i = g) w (.cells (blk nought) 64))
 have HE := Hid.mk' (H1.out.box HX.out (blk nought))
 have HG := Hid.mk' (HF.out.trans (Fr.setRow (w.alloc (.cells (blk nought) 64)) w.heap.size (blk nought)) (fun i hi q => absurd q (by omega)))
 have z58 := zero25
 have c0 := H1.out.cells.1
 have c5 := H1.out.cells.2.2.2.2.2.1
 have hlt : g < w.heap.size := (Array.getElem?_eq_some_iff.1 h.row).1
 unfold rRefV at hb ⊢
 clear h
 cases hd : s.dead
 ·rw [hd] at c5 hb
  simp only [Bool.false_eq_true, if_false] at hb ⊢
  have hk : ¬ (0 ≤ k ∧ k < s.n) := fun q => hb (by rw [if_pos q])
  rw [if_neg hk]
  clear hb
  by_cases h0 : k < 0
  all_goals
   go_enter Tryz.func85, Tryz.ntmps85
   go_wp2_with (with_reducible refine isStore 64 ?_; refine wpList_store25 rfl _ _ rfl w.heap.size nought rfl rfl nought HX.out ?_)
   exact retBT rfl w.heap.size nought rfl (setRow_heap _ _ _ _ _ _ HX.out) rfl ⟨rfl, HE.out, HG.out⟩
 ·rw [hd] at c5
  clear hb
  simp only [if_true]
  go_enter Tryz.func85, Tryz.ntmps85
  go_wp2_with (with_reducible refine isStore 64 ?_; refine wpList_store25 rfl _ _ rfl w.heap.size nought rfl rfl nought HX.out ?_)
  exact retBT rfl w.heap.size nought rfl (setRow_heap _ _ _ _ _ _ HX.out) rfl ⟨rfl, HE.out, HG.out⟩
set_option maxRecDepth 20000 in
set_option maxHeartbeats 4000000 in
theorem rRead_ok (h : RDAt w B g hv wv ov s) {k : Int} (hb : rRefV s k = 0) (hc : 0 ≤ s.seen ∧ s.seen < 9223372036854775807) (hlw : s.wait.length ≤ 1000000000) (hlh : s.held.length ≤ 1000000000) :
  Calls Tryz.prog 85 #[.pointer (some ⟨g, 0, none⟩), .int .i64 k] w fun e w' => e = .returned (.tuple #[.agg (blk (rCur s k)), .int .i64 0]) ∧ RDAt w' B g hv wv ov { s with seen := s.seen + 1 } ∧ Fr (fun i => i = g) w w' := by
 obtain ⟨hd, hk0, hk1⟩ := rRefV_ok hb
 clear hb
 have h1 := h.later (below_new w (.cells (blk nought) 64))
 have hlt : g < w.heap.size := (Array.getElem?_eq_some_iff.1 h.row).1
 have c0 := h1.cells.1
 have c5 := h1.cells.2.2.2.2.2.1
 have c8 := h1.cells.2.2.2.2.2.2.2.2.1
 rw [hd] at c5
 have f8 := h1.free 8
 have hw8 : IntKind.i64.wrap (s.seen + 1) = s.seen + 1 := by rw [IntKind.wrap_i64]; omega
 have hsz : (w.setCell ⟨g, 8, none⟩ (.int .i64 (s.seen + 1))).heap.size = w.heap.size := by simp
 have H1 := Hid.mk' ((h.set (j := 8) (u := .int .i64 (s.seen + 1)) (s' := { s with seen := s.seen + 1 }) rfl rfl rfl rfl).later (below_new _ (.cells (blk nought) 64)))
 have hX := heap_alloc_new (w.setCell ⟨g, 8, none⟩ (.int .i64 (s.seen + 1))) (.cells (blk nought) 64)
 rw [hsz] at hX
 have HX := Hid.mk' hX
 have HF := Hid.mk' ((Fr.setCell w g 8 (.int .i64 (s.seen + 1))).trans (Fr.alloc (fun i => i = g) _ (.cells (blk nought) 64)) fun _ _ q => q)
 clear hX hsz
 have z58 := zero25
 clear h h1
 go_enter Tryz.func85, Tryz.ntmps85
 go_upto_region 8 with fail
 clear c0 c5 c8 f8 hw8
 generalize (w.setCell ⟨g, 8, none⟩ (.int .i64 (s.seen + 1))).alloc (.cells (blk nought) 64) = W1 at *
 have c1 := H1.out.cells.2.1
 have c2 := H1.out.cells.2.2.1
 obtain ⟨pw, cw, hwv, hIw, -, -⟩ := HL.img (show HL B W1 wv s.wait from H1.out.wait)
 obtain ⟨ph, ch, hhv, hIh, -, -⟩ := HL.img (show HL B W1 hv s.held from H1.out.held)
 have HIw := Hid.mk' hIw
 have HA := Hid.mk' (fun W (hI : ImgAt W ph s.held) => rAt_any s.held ph ch k W hlh hI)
 have HIh := Hid.mk' hIh
 subst hwv
 subst hhv
 clear hIw hIh
 obtain ⟨N, hN⟩ : ∃ N, s.wait.length = N := ⟨_, rfl⟩
 have HN := Hid.mk' hN
 rw [hN] at c2 hlw
 clear hN
 go_wp2
 go_loopw [6] (fun s6 wx => ∃ (q : Int) (j : Nat), j ≤ N ∧ q = (j : Int) - 1 ∧ s6 = .int .i64 q ∧ wx = W1 ∧ Hid (lastAt s.wait k = lastAt (s.wait.take j) k)) (fun s6 _ => (intOf s6 + 1).toNat)
 case atStart => exact ⟨_, N, Nat.le_refl _, rfl, by go_num, rfl, by rw [← HN.out, List.take_length]; exact Hid.mk' rfl⟩
 case round =>
  obtain ⟨q, j, hj, hq, rfl, rfl, HL⟩ := hrel
  by_cases hq0 : 0 ≤ q
  ·obtain ⟨i, rfl⟩ := Int.eq_ofNat_of_zero_le hq0
   have hj1 : j = i + 1 := by omega
   subst hj1
   have hil : i < s.wait.length := by have := HN.out; omega
   have hcc : s.wait[i]? = some (s.wait[i]'hil) := List.getElem?_eq_getElem hil
   have ht : s.wait.take (i + 1) = s.wait.take i ++ [s.wait[i]'hil] := by rw [List.take_add_one, List.getElem?_eq_getElem hil]; rfl
   generalize s.wait[i]'hil = x at hcc ht
   have hL := HL.out
   rw [ht, lastAt_snoc, List.length_take, Nat.min_eq_left (Nat.le_of_lt hil)] at hL
   obtain ⟨b0, off, rfl, hlt0, hC⟩ := HIw.out (by omega)
   have HQ := Hid.mk' (show CelAt wr b0 (off + i * 1025) x from hC i x hcc)
   have e1 := HQ.out.1
   clear hq
   by_cases hx : x.1 = k
   ·rw [if_pos hx] at hL
    have HV := Hid.mk' (rCur_wait hL hcc)
    have HB := Hid.mk' (show BlkAt wr b0 (off + i * 1025 + 1) x.2 from HQ.out.2)
    have HE := Hid.mk' (H1.out.box HX.out (blk x.2))
    have HG := Hid.mk' (HF.out.trans (Fr.setRow wr w.heap.size (blk x.2)) (fun i hi q => absurd q (by omega)))
    rw [hx] at e1
    clear hL ht hcc hC HL hil hx HA HIh
    go_wp2_with (first | (with_reducible refine isLoad 64 ?_; refine wpList_exec rfl (exec_ldBlk rfl rfl HB.out) ?_) | (with_reducible refine isStore 64 ?_; refine wpList_store25 rfl _ _ rfl w.heap.size x.2 rfl rfl nought HX.out ?_))
    exact retBT rfl w.heap.size x.2 rfl (setRow_heap _ _ _ _ _ _ HX.out) rfl ⟨by rw [HV.out]; rfl, HE.out, HG.out⟩
   ·rw [if_neg hx] at hL
    have HL2 := Hid.mk' hL
    have hne : (x.1 == k) = false := by simpa using hx
    clear hL ht hcc hC HL hil hx HA HIh
    go_wp2
    exact ⟨⟨_, i, by omega, rfl, by go_num, by first | rfl | trivial, HL2.out⟩, by simp [intOf]⟩
  ·have hj0 : j = 0 := by omega
   subst hj0
   have HV := Hid.mk' (rCur_held (s := s) (k := k) (HL.out.trans rfl))
   clear HL
   go_wp2_with (go_at_call 109; fail)
   refine Calls.mono (HA.out _ HIh.out) ?_
   rintro e W2 ⟨rfl, hb⟩
   have hX2 := heap_kept HX.out hb
   have H2 := Hid.mk' ((H1.out.later hb).box hX2 (blk (atL s.held k)))
   have HG := Hid.mk' ((HF.out.trans (Fr.ofBelow hb) (T' := fun i => i = g) fun _ _ q => q).trans (Fr.setRow W2 w.heap.size (blk (atL s.held k))) (fun i hi q => absurd q (by omega)))
   have HX2 := Hid.mk' hX2
   clear hb hX2 H1 HX HF HA
   generalize atL s.held k = f at *
   go_wp2_with (with_reducible refine isStore 64 ?_; refine wpList_store25 rfl _ _ rfl w.heap.size f rfl rfl nought HX2.out ?_)
   exact retBT rfl w.heap.size f rfl (setRow_heap _ _ _ _ _ _ HX2.out) rfl ⟨by rw [HV.out]; rfl, H2.out, HG.out⟩
end Go.Proofs.YtichojdcoegboaaGreatW
namespace Go.Proofs.YtichojdcoegboaaGreatW
open Go.RowKit Go.Maps
def RHas (g : Nat) (hv wv ov : Value) (b : Nat) : Prop := b = g ∨ hv.ownBlock = some b ∨ wv.ownBlock = some b ∨ ov.ownBlock = some b
structure RTo (g : Nat) (hv wv ov hv' wv' ov' : Value) (w w' : World) : Prop where
 fr : Fr (RHas g hv wv ov) w w'
 loc : ∀ b, RHas g hv' wv' ov' b → RHas g hv wv ov b ∨ w.heap.size ≤ b
theorem RTo.trans {g : Nat} {a1 a2 a3 b1 b2 b3 c1 c2 c3 : Value} {u v w : World} (h : RTo g a1 a2 a3 b1 b2 b3 u v) (k : RTo g b1 b2 b3 c1 c2 c3 v w) : RTo g a1 a2 a3 c1 c2 c3 u w :=
 ⟨h.fr.trans k.fr fun i hi q => (h.loc i q).elim id fun r => absurd hi (by omega), fun b q => (k.loc b q).elim (h.loc b) fun r => .inr (by have := h.fr.size; omega)⟩
theorem RTo.ofFr {g : Nat} {hv wv ov : Value} {w w' : World} (h : Fr (fun i => i = g) w w') : RTo g hv wv ov hv wv ov w w' := ⟨h.mono fun _ _ q => .inl q, fun _ q => .inl q⟩
theorem RTo.drew {g : Nat} {hv wv ov hv' wv' ov' : Value} {w w' : World} (h : RTo g hv wv ov hv' wv' ov' w w') : RTo g hv wv ov hv' wv' ov' w w'.drew := ⟨h.fr.trans (Fr.drew (T := fun _ => False) w') fun _ _ q => q.elim, h.loc⟩
theorem RTo.stepW {g : Nat} {hv wv ov v : Value} {V W : World} (hf : Fr (fun i => wv.ownBlock = some i) V W) (hor : ∀ k, v.ownBlock = some k → wv.ownBlock = some k ∨ V.heap.size ≤ k) : RTo g hv wv ov hv v ov V (W.setCell ⟨g, 2, none⟩ v) :=
 ⟨(hf.mono fun _ _ q => .inr (.inr (.inl q))).trans (Fr.setCell W g 2 v) fun _ _ q => .inl q, fun b q => by
  rcases q with q | q | q | q
  ·exact .inl (.inl q)
  ·exact .inl (.inr (.inl q))
  ·exact (hor b q).elim (fun r => .inl (.inr (.inr (.inl r)))) .inr
  ·exact .inl (.inr (.inr (.inr q)))⟩
theorem RTo.stepO {g : Nat} {hv wv ov v : Value} {V W : World} (hf : Fr (fun i => ov.ownBlock = some i) V W) (hor : ∀ k, v.ownBlock = some k → ov.ownBlock = some k ∨ V.heap.size ≤ k) : RTo g hv wv ov hv wv v V (W.setCell ⟨g, 6, none⟩ v) :=
 ⟨(hf.mono fun _ _ q => .inr (.inr (.inr q))).trans (Fr.setCell W g 6 v) fun _ _ q => .inl q, fun b q => by
  rcases q with q | q | q | q
  ·exact .inl (.inl q)
  ·exact .inl (.inr (.inl q))
  ·exact .inl (.inr (.inr (.inl q)))
  ·exact (hor b q).elim (fun r => .inl (.inr (.inr (.inr r)))) .inr⟩
def Tco (g : Nat) (ov : Value) (i : Nat) : Prop := i = g ∨ ov.ownBlock = some i
def RWrP (B g : Nat) (hv wv ov : Value) (t : RSt) (w w' : World) : Prop := ∃ wv' ov', RDAt w' B g hv wv' ov' t ∧ RTo g hv wv ov hv wv' ov' w w'
def RBarP (B g : Nat) (hv ov : Value) (t : RSt) (w w' : World) : Prop := ∃ hv' ov', RDAt w' B g hv' (.slice none 0 0) ov' t ∧ Fr (Tco g ov) w w' ∧ (∀ b, hv'.ownBlock = some b → hv.ownBlock = some b ∨ w.heap.size ≤ b) ∧ ∀ b, ov'.ownBlock = some b → ov.ownBlock = some b ∨ w.heap.size ≤ b
def RCrP (B g : Nat) (hv : Value) (t : RSt) (w w' : World) : Prop := ∃ hv', RDAt w' B g hv' (.slice none 0 0) (.slice none 0 0) t ∧ Fr (fun i => i = g) w w' ∧ ∀ b, hv'.ownBlock = some b → hv.ownBlock = some b ∨ w.heap.size ≤ b
theorem Fr.drewF {T : Nat → Prop} {a b : World} (h : Fr T a b) : Fr T a b.drew := h.trans (Fr.drew (T := fun _ => False) b) fun _ _ q => q.elim
section
variable {w V : World} {B g : Nat} {hv wv ov : Value} {s : RSt}
theorem RDAt.lt (h : RDAt w B g hv wv ov s) : g < w.heap.size := (Array.getElem?_eq_some_iff.1 h.row).1
theorem RDAt.pushW (h : RDAt V B g hv wv ov s) (hl : s.wait.length ≤ 10000000) (x : Cel) :
  ∃ v' W5, (Builtin.append_ #[22, 22] 22 #[wv, .slice (some ⟨V.heap.size, 0, none⟩) 1 1]).run Tryz.prog (V.alloc (.cells (celRow x).toArray 76)) = .ok v' W5 ∧ W5.heap[g]? = some (.cells (rdRow hv wv ov s) 73) ∧ Below B V W5 ∧ Fr (fun i => wv.ownBlock = some i) V W5 ∧ (∀ k, v'.ownBlock = some k → wv.ownBlock = some k ∨ V.heap.size ≤ k) ∧
   RDAt (W5.setCell ⟨g, 2, none⟩ v') B g hv v' ov { s with wait := s.wait ++ [x] } := by
 obtain ⟨v', W5, hr, ho, hb, hF, hor⟩ := HL.push (show HL B V wv s.wait from h.wait) (by have := h.base; have := h.lt; omega) (by omega) x 22
 have hrow : W5.heap[g]? = some (.cells (rdRow hv wv ov s) 73) := (hF.block g h.lt (own_ne h.wait h.row (by decide))).trans h.row
 refine ⟨v', W5, hr, hrow, hb, hF, hor, ?_, ?_, ?_, ?_, ?_, h.base⟩
 ·rw [heap_setCell_same W5 g 2 _ 73 v' hrow]; rfl
 ·exact ownsRow_setCell_other (own_frame h.held hF fun i q1 q2 => h.two i q1 q2) (a := ⟨g, 2, none⟩) (own_ne (own_frame h.held hF fun i q1 q2 => h.two i q1 q2) hrow (by decide)) v'
 ·exact ownsRow_setCell_other ho (a := ⟨g, 2, none⟩) (own_ne ho hrow (by decide)) v'
 ·have ho2 := own_frame h.ops hF fun i q1 q2 => rows_apart (by decide) h.wait q2 h.ops q1
  exact ownsRow_setCell_other ho2 (a := ⟨g, 2, none⟩) (own_ne ho2 hrow (by decide)) v'
 ·intro b q1 q2
  rcases hor b q2 with q | q
  ·exact h.two b q1 q
  ·have := (h.held.lt b q1).2
   omega
theorem RDAt.pushO (h : RDAt V B g hv wv ov s) (hl : s.ops.length ≤ 10000000) (x : Rec) :
  ∃ v' W5, (Builtin.append_ #[49, 49] 49 #[ov, .slice (some ⟨V.heap.size, 0, none⟩) 1 1]).run Tryz.prog (V.alloc (.cells (recCells x).toArray 98)) = .ok v' W5 ∧ W5.heap[g]? = some (.cells (rdRow hv wv ov s) 73) ∧ Below B V W5 ∧ Fr (fun i => ov.ownBlock = some i) V W5 ∧ (∀ k, v'.ownBlock = some k → ov.ownBlock = some k ∨ V.heap.size ≤ k) ∧
   RDAt (W5.setCell ⟨g, 6, none⟩ v') B g hv wv v' { s with ops := s.ops ++ [x] } := by
 obtain ⟨i0, hi0, hz0, hz1, hz2⟩ := info_parts info108
 obtain ⟨v', W5, hr, ho, hb, hF, hor⟩ := own_pushL recCells_len recCells_one Tryz.underlying49 hi0 hz0 hz1 hz2 (rec_size ⟨0, 0, nought⟩) (by omega) (by omega) h.ops (by have := h.base; have := h.lt; omega) (by omega) x 49
 have hrow : W5.heap[g]? = some (.cells (rdRow hv wv ov s) 73) := (hF.block g h.lt (own_ne h.ops h.row (by decide))).trans h.row
 have ho1 := own_frame h.held hF fun i q1 q2 => rows_apart (by decide) h.ops q2 h.held q1
 have ho2 := own_frame h.wait hF fun i q1 q2 => rows_apart (by decide) h.ops q2 h.wait q1
 refine ⟨v', W5, hr, hrow, hb, hF, hor, ?_, ?_, ?_, ?_, h.two, h.base⟩
 ·rw [heap_setCell_same W5 g 6 _ 73 v' hrow]; rfl
 ·exact ownsRow_setCell_other ho1 (a := ⟨g, 6, none⟩) (own_ne ho1 hrow (by decide)) v'
 ·exact ownsRow_setCell_other ho2 (a := ⟨g, 6, none⟩) (own_ne ho2 hrow (by decide)) v'
 ·exact ownsRow_setCell_other ho (a := ⟨g, 6, none⟩) (own_ne ho hrow (by decide)) v'
theorem RDAt.drew (h : RDAt V B g hv wv ov s) : RDAt V.drew B g hv wv ov s := ⟨h.row, own_frame h.held (Fr.drew (T := fun _ => False) V) fun _ _ q => q, own_frame h.wait (Fr.drew (T := fun _ => False) V) fun _ _ q => q, own_frame h.ops (Fr.drew (T := fun _ => False) V) fun _ _ q => q, h.two, h.base⟩
theorem rLets_wait (s : RSt) : (rLets s).wait = s.wait := by unfold rLets; split; (split <;> rfl); rfl
theorem rLets_ops (s : RSt) : (rLets s).ops = s.ops := by unfold rLets; split; (split <;> rfl); rfl
theorem rLets_held (s : RSt) : (rLets s).held = s.held := by unfold rLets; split; (split <;> rfl); rfl
end
variable {w : World} {B g : Nat} {hv wv ov : Value} {s : RSt}
def rWriteS (s : RSt) (k : Int) (f : Nat → Int) : RSt := { rLets s with wait := (rLets s).wait ++ [(k, f)], ops := (rLets s).ops ++ [⟨1, k, f⟩] }
set_option maxRecDepth 20000 in
theorem rWrite_bad (h : RDAt w B g hv wv ov s) {k : Int} (hb : rRefV s k ≠ 0) (f : Nat → Int) :
  Calls Tryz.prog 95 #[.pointer (some ⟨g, 0, none⟩), .int .i64 k, .agg (blk f)] w fun e w' => e = .returned (.int .i64 (rRefV s k)) ∧ RDAt w' B g hv wv ov s ∧ Below w.heap.size w w' := by
 have H1 := Hid.mk' (h.later (below_new w (.cells (blk f) 64)))
 have HB := Hid.mk' (below_new w (.cells (blk f) 64))
 have c0 := H1.out.cells.1
 have c5 := H1.out.cells.2.2.2.2.2.1
 unfold rRefV at hb ⊢
 clear h
 cases hd : s.dead
 ·rw [hd] at c5 hb
  simp only [Bool.false_eq_true, if_false] at hb ⊢
  have hk : ¬ (0 ≤ k ∧ k < s.n) := fun q => hb (by rw [if_pos q])
  rw [if_neg hk]
  clear hb
  by_cases h0 : k < 0
  all_goals
   go_enter Tryz.func95, Tryz.ntmps95
   go_wp2
   go_ret
   exact ⟨rfl, H1.out, HB.out⟩
 ·rw [hd] at c5
  clear hb
  simp only [if_true]
  go_enter Tryz.func95, Tryz.ntmps95
  go_wp2
  go_ret
  exact ⟨rfl, H1.out, HB.out⟩
set_option maxRecDepth 20000 in
theorem rWrite_dead (h : RDAt w B g hv wv ov s) {k : Int} (hb : rRefV s k = 0) (hL : rLetsB s = false) (hl : s.fused = true → 0 ≤ s.left ∧ s.left ≤ 9223372036854775807) (hc : 0 ≤ s.count ∧ s.count < 9223372036854775807) (f : Nat → Int) :
  Calls Tryz.prog 95 #[.pointer (some ⟨g, 0, none⟩), .int .i64 k, .agg (blk f)] w fun e w' => e = .returned (.int .i64 3) ∧ RDAt w' B g hv wv ov (rLets s) ∧ Fr (fun i => i = g) w w' := by
 obtain ⟨hd, hk0, hk1⟩ := rRefV_ok hb
 have h1 := h.later (below_new w (.cells (blk f) 64))
 have c0 := h1.cells.1
 have c5 := h1.cells.2.2.2.2.2.1
 rw [hd] at c5
 have hT := rLets_any h1 hl hc
 rw [hL] at hT
 have HF := Hid.mk' (Fr.alloc (fun i => i = g) w (.cells (blk f) 64))
 clear h h1 hb hl hc
 go_enter Tryz.func95, Tryz.ntmps95
 go_wp2_with (go_at_call 114; fail)
 refine hT.mono ?_
 rintro e W ⟨rfl, hD, hF⟩
 have HD := Hid.mk' hD
 have HF2 := Hid.mk' (HF.out.trans hF fun _ _ q => q)
 clear hD hF HF
 go_wp2
 go_ret
 exact ⟨rfl, HD.out, HF2.out⟩
set_option maxRecDepth 20000 in
set_option maxHeartbeats 4000000 in
theorem rWrite_ok (h : RDAt w B g hv wv ov s) {k : Int} (hb : rRefV s k = 0) (hL : rLetsB s = true) (hl : s.fused = true → 0 ≤ s.left ∧ s.left ≤ 9223372036854775807) (hc : 0 ≤ s.count ∧ s.count < 9223372036854775807) (hlw : s.wait.length ≤ 10000000) (hlo : s.ops.length ≤ 10000000) (f : Nat → Int) :
  Calls Tryz.prog 95 #[.pointer (some ⟨g, 0, none⟩), .int .i64 k, .agg (blk f)] w fun e w' => e = .returned (.int .i64 0) ∧ RWrP B g hv wv ov (rWriteS s k f) w w' := by
 obtain ⟨hd, hk0, hk1⟩ := rRefV_ok hb
 have h1 := h.later (below_new w (.cells (blk f) 64))
 have hX := heap_alloc_new w (.cells (blk f) 64)
 have c0 := h1.cells.1
 have c5 := h1.cells.2.2.2.2.2.1
 rw [hd] at c5
 have hT := rLets_any h1 hl hc
 rw [hL] at hT
 have hlt := h.lt
 have HF := Hid.mk' (Fr.alloc (fun i => i = g) w (.cells (blk f) 64))
 have hl1 : (rLets s).wait.length ≤ 10000000 := by rw [rLets_wait]; exact hlw
 have hl2 : (rLets s).ops.length ≤ 10000000 := by rw [rLets_ops]; exact hlo
 clear h h1 hb hl hc
 go_enter Tryz.func95, Tryz.ntmps95
 go_wp2_with (go_at_call 114; fail)
 refine hT.mono ?_
 rintro e W ⟨rfl, hD, hF⟩
 have hX1 : W.heap[w.heap.size]? = some (.cells (blk f) 64) := (hF.block w.heap.size (by simp) (by omega)).trans hX
 have HF2 := Hid.mk' (RTo.ofFr (hv := hv) (wv := wv) (ov := ov) (HF.out.trans hF fun _ _ q => q))
 have HD := Hid.mk' hD
 clear hF HF hX c0 c5 hT hD
 generalize hS : rLets s = S at *
 generalize hg0 : w.heap.size = g0 at *
 go_wp2
 have D9 := HD.out.drew
 have X9 : W.drew.heap[g0]? = some (.cells (blk f) 64) := hX1
 have B9 := Hid.mk' HF2.out.drew
 refine wp_region_fork (S := fun u => u.heap[g0]? = some (.cells (blk f) 64)) [0, 1, 2, 3, 5, 6, 7] 4 8 [(9, false), (10, true), (11, true), (12, false)] (by kernel_rfl) rfl (by kernel_rfl) (fun d _ _ _ _ h => by cases d <;> exact h) X9 ?_
 try simp only [Act.put]
 generalize W.drew = V9 at *
 refine wpFork_yield (v := .pointer (some ⟨g, 0, none⟩)) rfl rfl (fun u _ => by simp [execOp, Act.eval]) ?_
 simp only [Act.put, pA, pB, pC]
 refine wpFork_yield (v := .pointer (some ⟨g, 0, none⟩)) rfl rfl (fun u _ => by simp [execOp, Act.eval]) ?_
 simp only [Act.put, pA, pB, pC]
 refine wpFork_yield (v := .pointer (some ⟨g, 0, none⟩)) rfl rfl (fun u _ => by go_simp) ?_
 simp only [Act.put, pA, pB, pC]
 refine wpFork_yield (v := .pointer (some ⟨g, 2, none⟩)) rfl rfl (fun u _ => by go_simp) ?_
 simp only [Act.put, pA, pB, pC]
 refine wpFork_yield (v := .int .i64 k) rfl rfl (fun u _ => by simp [execOp, Act.eval]) ?_
 simp only [Act.put, pA, pB, pC]
 refine wpFork_yield (v := .agg (blk f)) rfl rfl (fun u hu => by
  unfold execOp
  simp only [Act.eval]
  have e := loadM (BlkAt.of hu)
  change Sem.run Tryz.prog (Instr.loadAt 64 (.pointer (some ⟨g0, 0, none⟩)) >>= fun v => pure (Next.value v)) u = _
  simp only [Sem.run_bind, e, Result.andThen_ok, Sem.run_pure]) ?_
 simp only [Act.put, pA, pB, pC]
 refine wpFork_yield (v := .agg (celRow (k, f)).toArray) rfl rfl (fun u hu => by
  have e := build85 k f u
  simp [execOp, Act.eval, e]) ?_
 simp only [Act.put, pA, pB, pC]
 obtain ⟨v9, W9, hr9, hw9, hb9, hf9, ho9, hE9⟩ := D9.pushW hl1 (k, f)
 obtain ⟨aa9, am9, ac9, rfl⟩ : ∃ a m c, v9 = Value.slice a m c := by obtain ⟨p, c, e, _⟩ := own_slice hE9.wait; exact ⟨_, _, _, e⟩
 have E9 := Hid.mk' hE9
 have k9 : W9.cell? ⟨g, 2, none⟩ = some wv := Joins.cell_of_block hw9 2
 have z9 : W9.frozen? ⟨g, 2, none⟩ = false := Joins.unfrozen_of_block hw9 2
 have c9 : V9.cell? ⟨g, 2, none⟩ = some wv := Joins.cell_of_block D9.row 2
 have c9' : (V9.alloc (.cells (celRow (k, f)).toArray 76)).cell? ⟨g, 2, none⟩ = some wv := by rw [World.cell?_alloc_past _ _ _ D9.lt]; exact c9
 have S1 := heap_kept X9 (below_new V9 (.cells (celRow (k, f)).toArray 76))
 have S5 : W9.heap[g0]? = some (.cells (blk f) 64) := (hf9.block g0 (Array.getElem?_eq_some_iff.1 X9).1 (own_ne D9.wait X9 (by decide))).trans X9
 have S6 : (W9.setCell ⟨g, 2, none⟩ (.slice aa9 am9 ac9)).heap[g0]? = some (.cells (blk f) 64) := (Below.heap_setCell _ _ _ _ (by show g0 ≠ g; omega)).trans S5
 have B9' := Hid.mk' (B9.out.trans (RTo.stepW hf9 ho9))
 have hbs := build30 (k, f) V9
 obtain ⟨p9, q9, e9, -⟩ := own_slice D9.wait
 have hlen9 := hl1
 rw [e9] at hr9 k9 c9 c9'
 clear hE9 hw9 hb9 hf9 ho9 D9 B9
 generalize hrc9 : (celRow (k, f)).toArray = RC9 at *
 generalize hlm9 : S.wait.length = m9 at *
 refine wpFork_nil rfl rfl ?_ ?_
 ·simp only [inOrd, List.getElem?_cons_zero, List.getElem?_cons_succ]
  refine wpOrd_run (v := .slice p9 m9 q9) (w' := V9) rfl (by go_simp) X9 ?_
  simp only [Act.put, pA, pB, pC]
  refine wpOrd_run (v := .slice (some ⟨V9.heap.size, 0, none⟩) 1 1) (w' := V9.alloc (.cells RC9 76)) rfl (by simp [execOp, Act.eval, hbs]) S1 ?_
  simp only [Act.put, pA, pB, pC]
  refine wpOrd_run (v := .slice aa9 am9 ac9) (w' := W9) rfl (by simp [execOp, Act.eval, resolve, invoke, builtin, hr9, Result.andThen]) S5 ?_
  simp only [Act.put, pA, pB, pC]
  refine wpOrd_yield (v := .pointer (some ⟨g, 0, none⟩)) rfl (fun u _ => by go_simp) ?_
  simp only [Act.put, pA, pB, pC]
  refine wpOrd_yield (v := .pointer (some ⟨g, 2, none⟩)) rfl (fun u _ => by go_simp) ?_
  simp only [Act.put, pA, pB, pC]
  refine wpOrd_do (w' := W9.setCell ⟨g, 2, none⟩ (.slice aa9 am9 ac9)) rfl (by go_simp) S6 ?_
  refine wpOrd_nil ?_
  simp only [Act.put]
  clear hr9 S1 S5 k9 z9 c9 c9' hbs hrc9
  generalize W9.setCell ⟨g, 2, none⟩ (.slice aa9 am9 ac9) = Y9 at *
  go_wp2
  have D10 := E9.out.drew
  have X10 : Y9.drew.heap[g0]? = some (.cells (blk f) 64) := S6
  have B10 := Hid.mk' B9'.out.drew
  refine wp_region_fork (S := fun u => u.heap[g0]? = some (.cells (blk f) 64)) [0, 1, 2, 3, 5, 6, 7] 4 8 [(9, false), (10, true), (11, true), (12, false)] (by kernel_rfl) rfl (by kernel_rfl) (fun d _ _ _ _ h => by cases d <;> exact h) X10 ?_
  try simp only [Act.put]
  generalize Y9.drew = V10 at *
  refine wpFork_yield (v := .pointer (some ⟨g, 0, none⟩)) rfl rfl (fun u _ => by simp [execOp, Act.eval]) ?_
  simp only [Act.put, pA, pB, pC]
  refine wpFork_yield (v := .pointer (some ⟨g, 0, none⟩)) rfl rfl (fun u _ => by simp [execOp, Act.eval]) ?_
  simp only [Act.put, pA, pB, pC]
  refine wpFork_yield (v := .pointer (some ⟨g, 0, none⟩)) rfl rfl (fun u _ => by go_simp) ?_
  simp only [Act.put, pA, pB, pC]
  refine wpFork_yield (v := .pointer (some ⟨g, 6, none⟩)) rfl rfl (fun u _ => by go_simp) ?_
  simp only [Act.put, pA, pB, pC]
  refine wpFork_yield (v := .int .i64 k) rfl rfl (fun u _ => by simp [execOp, Act.eval]) ?_
  simp only [Act.put, pA, pB, pC]
  refine wpFork_yield (v := .agg (blk f)) rfl rfl (fun u hu => by
   unfold execOp
   simp only [Act.eval]
   have e := loadM (BlkAt.of hu)
   change Sem.run Tryz.prog (Instr.loadAt 64 (.pointer (some ⟨g0, 0, none⟩)) >>= fun v => pure (Next.value v)) u = _
   simp only [Sem.run_bind, e, Result.andThen_ok, Sem.run_pure]) ?_
  simp only [Act.put, pA, pB, pC]
  refine wpFork_yield (v := .agg (recCells ⟨1, k, f⟩).toArray) rfl rfl (fun u hu => by
   have e := build108 1 k f u
   simp [execOp, Act.eval, e]) ?_
  simp only [Act.put, pA, pB, pC]
  obtain ⟨v10, W10, hr10, hw10, hb10, hf10, ho10, hE10⟩ := D10.pushO hl2 ⟨1, k, f⟩
  obtain ⟨aa10, am10, ac10, rfl⟩ : ∃ a m c, v10 = Value.slice a m c := by obtain ⟨p, c, e, _⟩ := own_slice hE10.ops; exact ⟨_, _, _, e⟩
  have E10 := Hid.mk' hE10
  have k10 : W10.cell? ⟨g, 6, none⟩ = some ov := Joins.cell_of_block hw10 6
  have z10 : W10.frozen? ⟨g, 6, none⟩ = false := Joins.unfrozen_of_block hw10 6
  have c10 : V10.cell? ⟨g, 6, none⟩ = some ov := Joins.cell_of_block D10.row 6
  have c10' : (V10.alloc (.cells (recCells ⟨1, k, f⟩).toArray 98)).cell? ⟨g, 6, none⟩ = some ov := by rw [World.cell?_alloc_past _ _ _ D10.lt]; exact c10
  have S1 := heap_kept X10 (below_new V10 (.cells (recCells ⟨1, k, f⟩).toArray 98))
  have S5 : W10.heap[g0]? = some (.cells (blk f) 64) := (hf10.block g0 (Array.getElem?_eq_some_iff.1 X10).1 (own_ne D10.ops X10 (by decide))).trans X10
  have S6 : (W10.setCell ⟨g, 6, none⟩ (.slice aa10 am10 ac10)).heap[g0]? = some (.cells (blk f) 64) := (Below.heap_setCell _ _ _ _ (by show g0 ≠ g; omega)).trans S5
  have B10' := Hid.mk' (B10.out.trans (RTo.stepO hf10 ho10))
  have hbs := build67 ⟨1, k, f⟩ V10
  obtain ⟨p10, q10, e10, -⟩ := own_slice D10.ops
  have hlen10 := hl2
  rw [e10] at hr10 k10 c10 c10'
  clear hE10 hw10 hb10 hf10 ho10 D10 B10
  generalize hrc10 : (recCells ⟨1, k, f⟩).toArray = RC10 at *
  generalize hlm10 : S.ops.length = m10 at *
  refine wpFork_nil rfl rfl ?_ ?_
  ·simp only [inOrd, List.getElem?_cons_zero, List.getElem?_cons_succ]
   refine wpOrd_run (v := .slice p10 m10 q10) (w' := V10) rfl (by go_simp) X10 ?_
   simp only [Act.put, pA, pB, pC]
   refine wpOrd_run (v := .slice (some ⟨V10.heap.size, 0, none⟩) 1 1) (w' := V10.alloc (.cells RC10 98)) rfl (by simp [execOp, Act.eval, hbs]) S1 ?_
   simp only [Act.put, pA, pB, pC]
   refine wpOrd_run (v := .slice aa10 am10 ac10) (w' := W10) rfl (by simp [execOp, Act.eval, resolve, invoke, builtin, hr10, Result.andThen]) S5 ?_
   simp only [Act.put, pA, pB, pC]
   refine wpOrd_yield (v := .pointer (some ⟨g, 0, none⟩)) rfl (fun u _ => by go_simp) ?_
   simp only [Act.put, pA, pB, pC]
   refine wpOrd_yield (v := .pointer (some ⟨g, 6, none⟩)) rfl (fun u _ => by go_simp) ?_
   simp only [Act.put, pA, pB, pC]
   refine wpOrd_do (w' := W10.setCell ⟨g, 6, none⟩ (.slice aa10 am10 ac10)) rfl (by go_simp) S6 ?_
   refine wpOrd_nil ?_
   simp only [Act.put]
   clear hr10 S1 S5 k10 z10 c10 c10' hbs hrc10
   generalize W10.setCell ⟨g, 6, none⟩ (.slice aa10 am10 ac10) = Y10 at *
   have e := E10.out
   have e2 : RWrP B g hv wv ov (rWriteS s k f) w Y10 := ⟨_, _, by unfold rWriteS; rw [hS]; exact e, B10'.out⟩
   have HE := Hid.mk' e2
   clear e e2 E10 E9
   go_wp2
   go_ret
   exact ⟨rfl, HE.out⟩
  ·simp only [inOrd, List.getElem?_cons_zero, List.getElem?_cons_succ]
   refine wpOrd_run (v := .slice (some ⟨V10.heap.size, 0, none⟩) 1 1) (w' := V10.alloc (.cells RC10 98)) rfl (by simp [execOp, Act.eval, hbs]) S1 ?_
   simp only [Act.put, pA, pB, pC]
   refine wpOrd_run (v := .slice p10 m10 q10) (w' := V10.alloc (.cells RC10 98)) rfl (by go_simp) S1 ?_
   simp only [Act.put, pA, pB, pC]
   refine wpOrd_run (v := .slice aa10 am10 ac10) (w' := W10) rfl (by simp [execOp, Act.eval, resolve, invoke, builtin, hr10, Result.andThen]) S5 ?_
   simp only [Act.put, pA, pB, pC]
   refine wpOrd_yield (v := .pointer (some ⟨g, 0, none⟩)) rfl (fun u _ => by go_simp) ?_
   simp only [Act.put, pA, pB, pC]
   refine wpOrd_yield (v := .pointer (some ⟨g, 6, none⟩)) rfl (fun u _ => by go_simp) ?_
   simp only [Act.put, pA, pB, pC]
   refine wpOrd_do (w' := W10.setCell ⟨g, 6, none⟩ (.slice aa10 am10 ac10)) rfl (by go_simp) S6 ?_
   refine wpOrd_nil ?_
   simp only [Act.put]
   clear hr10 S1 S5 k10 z10 c10 c10' hbs hrc10
   generalize W10.setCell ⟨g, 6, none⟩ (.slice aa10 am10 ac10) = Y10 at *
   have e := E10.out
   have e2 : RWrP B g hv wv ov (rWriteS s k f) w Y10 := ⟨_, _, by unfold rWriteS; rw [hS]; exact e, B10'.out⟩
   have HE := Hid.mk' e2
   clear e e2 E10 E9
   go_wp2
   go_ret
   exact ⟨rfl, HE.out⟩
 ·simp only [inOrd, List.getElem?_cons_zero, List.getElem?_cons_succ]
  refine wpOrd_run (v := .slice (some ⟨V9.heap.size, 0, none⟩) 1 1) (w' := V9.alloc (.cells RC9 76)) rfl (by simp [execOp, Act.eval, hbs]) S1 ?_
  simp only [Act.put, pA, pB, pC]
  refine wpOrd_run (v := .slice p9 m9 q9) (w' := V9.alloc (.cells RC9 76)) rfl (by go_simp) S1 ?_
  simp only [Act.put, pA, pB, pC]
  refine wpOrd_run (v := .slice aa9 am9 ac9) (w' := W9) rfl (by simp [execOp, Act.eval, resolve, invoke, builtin, hr9, Result.andThen]) S5 ?_
  simp only [Act.put, pA, pB, pC]
  refine wpOrd_yield (v := .pointer (some ⟨g, 0, none⟩)) rfl (fun u _ => by go_simp) ?_
  simp only [Act.put, pA, pB, pC]
  refine wpOrd_yield (v := .pointer (some ⟨g, 2, none⟩)) rfl (fun u _ => by go_simp) ?_
  simp only [Act.put, pA, pB, pC]
  refine wpOrd_do (w' := W9.setCell ⟨g, 2, none⟩ (.slice aa9 am9 ac9)) rfl (by go_simp) S6 ?_
  refine wpOrd_nil ?_
  simp only [Act.put]
  clear hr9 S1 S5 k9 z9 c9 c9' hbs hrc9
  generalize W9.setCell ⟨g, 2, none⟩ (.slice aa9 am9 ac9) = Y9 at *
  go_wp2
  have D10 := E9.out.drew
  have X10 : Y9.drew.heap[g0]? = some (.cells (blk f) 64) := S6
  have B10 := Hid.mk' B9'.out.drew
  refine wp_region_fork (S := fun u => u.heap[g0]? = some (.cells (blk f) 64)) [0, 1, 2, 3, 5, 6, 7] 4 8 [(9, false), (10, true), (11, true), (12, false)] (by kernel_rfl) rfl (by kernel_rfl) (fun d _ _ _ _ h => by cases d <;> exact h) X10 ?_
  try simp only [Act.put]
  generalize Y9.drew = V10 at *
  refine wpFork_yield (v := .pointer (some ⟨g, 0, none⟩)) rfl rfl (fun u _ => by simp [execOp, Act.eval]) ?_
  simp only [Act.put, pA, pB, pC]
  refine wpFork_yield (v := .pointer (some ⟨g, 0, none⟩)) rfl rfl (fun u _ => by simp [execOp, Act.eval]) ?_
  simp only [Act.put, pA, pB, pC]
  refine wpFork_yield (v := .pointer (some ⟨g, 0, none⟩)) rfl rfl (fun u _ => by go_simp) ?_
  simp only [Act.put, pA, pB, pC]
  refine wpFork_yield (v := .pointer (some ⟨g, 6, none⟩)) rfl rfl (fun u _ => by go_simp) ?_
  simp only [Act.put, pA, pB, pC]
  refine wpFork_yield (v := .int .i64 k) rfl rfl (fun u _ => by simp [execOp, Act.eval]) ?_
  simp only [Act.put, pA, pB, pC]
  refine wpFork_yield (v := .agg (blk f)) rfl rfl (fun u hu => by
   unfold execOp
   simp only [Act.eval]
   have e := loadM (BlkAt.of hu)
   change Sem.run Tryz.prog (Instr.loadAt 64 (.pointer (some ⟨g0, 0, none⟩)) >>= fun v => pure (Next.value v)) u = _
   simp only [Sem.run_bind, e, Result.andThen_ok, Sem.run_pure]) ?_
  simp only [Act.put, pA, pB, pC]
  refine wpFork_yield (v := .agg (recCells ⟨1, k, f⟩).toArray) rfl rfl (fun u hu => by
   have e := build108 1 k f u
   simp [execOp, Act.eval, e]) ?_
  simp only [Act.put, pA, pB, pC]
  obtain ⟨v10, W10, hr10, hw10, hb10, hf10, ho10, hE10⟩ := D10.pushO hl2 ⟨1, k, f⟩
  obtain ⟨aa10, am10, ac10, rfl⟩ : ∃ a m c, v10 = Value.slice a m c := by obtain ⟨p, c, e, _⟩ := own_slice hE10.ops; exact ⟨_, _, _, e⟩
  have E10 := Hid.mk' hE10
  have k10 : W10.cell? ⟨g, 6, none⟩ = some ov := Joins.cell_of_block hw10 6
  have z10 : W10.frozen? ⟨g, 6, none⟩ = false := Joins.unfrozen_of_block hw10 6
  have c10 : V10.cell? ⟨g, 6, none⟩ = some ov := Joins.cell_of_block D10.row 6
  have c10' : (V10.alloc (.cells (recCells ⟨1, k, f⟩).toArray 98)).cell? ⟨g, 6, none⟩ = some ov := by rw [World.cell?_alloc_past _ _ _ D10.lt]; exact c10
  have S1 := heap_kept X10 (below_new V10 (.cells (recCells ⟨1, k, f⟩).toArray 98))
  have S5 : W10.heap[g0]? = some (.cells (blk f) 64) := (hf10.block g0 (Array.getElem?_eq_some_iff.1 X10).1 (own_ne D10.ops X10 (by decide))).trans X10
  have S6 : (W10.setCell ⟨g, 6, none⟩ (.slice aa10 am10 ac10)).heap[g0]? = some (.cells (blk f) 64) := (Below.heap_setCell _ _ _ _ (by show g0 ≠ g; omega)).trans S5
  have B10' := Hid.mk' (B10.out.trans (RTo.stepO hf10 ho10))
  have hbs := build67 ⟨1, k, f⟩ V10
  obtain ⟨p10, q10, e10, -⟩ := own_slice D10.ops
  have hlen10 := hl2
  rw [e10] at hr10 k10 c10 c10'
  clear hE10 hw10 hb10 hf10 ho10 D10 B10
  generalize hrc10 : (recCells ⟨1, k, f⟩).toArray = RC10 at *
  generalize hlm10 : S.ops.length = m10 at *
  refine wpFork_nil rfl rfl ?_ ?_
  ·simp only [inOrd, List.getElem?_cons_zero, List.getElem?_cons_succ]
   refine wpOrd_run (v := .slice p10 m10 q10) (w' := V10) rfl (by go_simp) X10 ?_
   simp only [Act.put, pA, pB, pC]
   refine wpOrd_run (v := .slice (some ⟨V10.heap.size, 0, none⟩) 1 1) (w' := V10.alloc (.cells RC10 98)) rfl (by simp [execOp, Act.eval, hbs]) S1 ?_
   simp only [Act.put, pA, pB, pC]
   refine wpOrd_run (v := .slice aa10 am10 ac10) (w' := W10) rfl (by simp [execOp, Act.eval, resolve, invoke, builtin, hr10, Result.andThen]) S5 ?_
   simp only [Act.put, pA, pB, pC]
   refine wpOrd_yield (v := .pointer (some ⟨g, 0, none⟩)) rfl (fun u _ => by go_simp) ?_
   simp only [Act.put, pA, pB, pC]
   refine wpOrd_yield (v := .pointer (some ⟨g, 6, none⟩)) rfl (fun u _ => by go_simp) ?_
   simp only [Act.put, pA, pB, pC]
   refine wpOrd_do (w' := W10.setCell ⟨g, 6, none⟩ (.slice aa10 am10 ac10)) rfl (by go_simp) S6 ?_
   refine wpOrd_nil ?_
   simp only [Act.put]
   clear hr10 S1 S5 k10 z10 c10 c10' hbs hrc10
   generalize W10.setCell ⟨g, 6, none⟩ (.slice aa10 am10 ac10) = Y10 at *
   have e := E10.out
   have e2 : RWrP B g hv wv ov (rWriteS s k f) w Y10 := ⟨_, _, by unfold rWriteS; rw [hS]; exact e, B10'.out⟩
   have HE := Hid.mk' e2
   clear e e2 E10 E9
   go_wp2
   go_ret
   exact ⟨rfl, HE.out⟩
  ·simp only [inOrd, List.getElem?_cons_zero, List.getElem?_cons_succ]
   refine wpOrd_run (v := .slice (some ⟨V10.heap.size, 0, none⟩) 1 1) (w' := V10.alloc (.cells RC10 98)) rfl (by simp [execOp, Act.eval, hbs]) S1 ?_
   simp only [Act.put, pA, pB, pC]
   refine wpOrd_run (v := .slice p10 m10 q10) (w' := V10.alloc (.cells RC10 98)) rfl (by go_simp) S1 ?_
   simp only [Act.put, pA, pB, pC]
   refine wpOrd_run (v := .slice aa10 am10 ac10) (w' := W10) rfl (by simp [execOp, Act.eval, resolve, invoke, builtin, hr10, Result.andThen]) S5 ?_
   simp only [Act.put, pA, pB, pC]
   refine wpOrd_yield (v := .pointer (some ⟨g, 0, none⟩)) rfl (fun u _ => by go_simp) ?_
   simp only [Act.put, pA, pB, pC]
   refine wpOrd_yield (v := .pointer (some ⟨g, 6, none⟩)) rfl (fun u _ => by go_simp) ?_
   simp only [Act.put, pA, pB, pC]
   refine wpOrd_do (w' := W10.setCell ⟨g, 6, none⟩ (.slice aa10 am10 ac10)) rfl (by go_simp) S6 ?_
   refine wpOrd_nil ?_
   simp only [Act.put]
   clear hr10 S1 S5 k10 z10 c10 c10' hbs hrc10
   generalize W10.setCell ⟨g, 6, none⟩ (.slice aa10 am10 ac10) = Y10 at *
   have e := E10.out
   have e2 : RWrP B g hv wv ov (rWriteS s k f) w Y10 := ⟨_, _, by unfold rWriteS; rw [hS]; exact e, B10'.out⟩
   have HE := Hid.mk' e2
   clear e e2 E10 E9
   go_wp2
   go_ret
   exact ⟨rfl, HE.out⟩
end Go.Proofs.YtichojdcoegboaaGreatW
namespace Go.Proofs.YtichojdcoegboaaGreatW
open Go.RowKit Go.Maps
section
variable {w W W2 : World} {B g : Nat} {hv wv ov v : Value} {s : RSt}
theorem own_base {e sz n B' : Nat} {xs : List Value} (h : w.ownsRow B' e sz v n xs) (hB : B ≤ B') : w.ownsRow B e sz v n xs := by
 refine ⟨h.1, ?_⟩
 rcases h.2 with q | ⟨g, cap, cur, e, hb, r⟩
 ·exact .inl q
 ·exact .inr ⟨g, cap, cur, e, Nat.le_trans hB hb, r⟩
theorem RDAt.setHeld (h : RDAt W B g hv wv ov s) (hb : Below W.heap.size W W2) {l : List Cel} (ho : W2.ownsRow W.heap.size 76 1025 v l.length (l.flatMap celRow)) : RDAt (W2.setCell ⟨g, 1, none⟩ v) B g v wv ov { s with held := l } := by
 have h2 := h.later hb
 have hBW : B ≤ W.heap.size := by have := h.base; have := h.lt; omega
 refine ⟨?_, ?_, ?_, ?_, ?_, h.base⟩
 ·rw [heap_setCell_same W2 g 1 _ 73 v h2.row]; rfl
 ·exact ownsRow_setCell_other (own_base ho hBW) (a := ⟨g, 1, none⟩) (own_ne ho h2.row (by decide)) v
 ·exact ownsRow_setCell_other h2.wait (a := ⟨g, 1, none⟩) (own_ne h2.wait h2.row (by decide)) v
 ·exact ownsRow_setCell_other h2.ops (a := ⟨g, 1, none⟩) (own_ne h2.ops h2.row (by decide)) v
 ·intro b q1 q2
  have e1 := (ho.lt b q1).1
  have e2 := (h.wait.lt b q2).2
  omega
theorem RDAt.nilW (h : RDAt w B g hv wv ov s) : RDAt (w.setCell ⟨g, 2, none⟩ (.slice none 0 0)) B g hv (.slice none 0 0) ov { s with wait := [] } := by
 refine ⟨?_, ?_, ?_, ?_, ?_, h.base⟩
 ·rw [heap_setCell_same w g 2 _ 73 (.slice none 0 0) h.row]; rfl
 ·exact ownsRow_setCell_other h.held (a := ⟨g, 2, none⟩) (own_ne h.held h.row (by decide)) _
 ·exact World.ownsRow_nil _ _ _ _
 ·exact ownsRow_setCell_other h.ops (a := ⟨g, 2, none⟩) (own_ne h.ops h.row (by decide)) _
 ·intro b _ q2
  cases q2
theorem RDAt.nilO (h : RDAt w B g hv wv ov s) : RDAt (w.setCell ⟨g, 6, none⟩ (.slice none 0 0)) B g hv wv (.slice none 0 0) { s with ops := [] } := by
 refine ⟨?_, ?_, ?_, ?_, h.two, h.base⟩
 ·rw [heap_setCell_same w g 6 _ 73 (.slice none 0 0) h.row]; rfl
 ·exact ownsRow_setCell_other h.held (a := ⟨g, 6, none⟩) (own_ne h.held h.row (by decide)) _
 ·exact ownsRow_setCell_other h.wait (a := ⟨g, 6, none⟩) (own_ne h.wait h.row (by decide)) _
 ·exact World.ownsRow_nil _ _ _ _
end
theorem laidGo_len (k : Int) (b : Nat → Int) : ∀ (d : Bool) (l : List Cel), (laidGo k b d l).length ≤ l.length + (if d then 0 else 1)
 | true, [] => by simp [laidGo]
 | false, [] => by simp [laidGo]
 | d, (y, f) :: t => by
  have ih := laidGo_len k b (d || decide (k ≤ y)) t
  rw [laidGo_at, List.length_append, List.length_append, List.length_cons]
  have h2 : (if y = k then ([] : List Cel) else [(y, f)]).length ≤ 1 := by split <;> simp
  cases d <;> by_cases hk : k ≤ y <;> simp [hk] at ih ⊢ <;> omega
theorem laidL_len (l : List Cel) (k : Int) (b : Nat → Int) : (laidL l k b).length ≤ l.length + 1 := by
 have h := laidGo_len k b (blankB b) l
 unfold laidL
 split at h <;> omega
def rLay (h : List Cel) (ws : List Cel) : List Cel := ws.foldl (fun h c => laidL h c.1 c.2) h
theorem rLay_snoc (h ws : List Cel) (c : Cel) : rLay h (ws ++ [c]) = laidL (rLay h ws) c.1 c.2 := by unfold rLay; rw [List.foldl_append]; rfl
theorem rLay_len (h : List Cel) : ∀ (ws : List Cel), (rLay h ws).length ≤ h.length + ws.length := fun ws => by
 induction ws generalizing h with
 | nil => simp [rLay]
 | cons c t ih =>
  have h1 := ih (laidL h c.1 c.2)
  have h2 := laidL_len h c.1 c.2
  show (rLay (laidL h c.1 c.2) t).length ≤ _
  rw [List.length_cons]
  omega
end Go.Proofs.YtichojdcoegboaaGreatW
