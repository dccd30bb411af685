/- Several texts joined: the log, its cache and its disk, of the program and of the document; no condition. -/
import Derived.Test.YtichojdcoegboaaGreatK45
import Derived.Test.YtichojdcoegboaaGreatK46
import Derived.Deep.Slices
import Derived.ProofKit
import Derived.OpenShut
namespace Go.Proofs.YtichojdcoegboaaGreatW
open Go.RowKit Go.Maps
theorem lastV_none {k : Int} : ∀ (l : List Cel) (x : Nat → Int), (∀ c ∈ l, c.1 ≠ k) → lastV x l k = x
 | [], _, _ => rfl
 | c :: t, x, h => by
  unfold lastV
  rw [if_neg (h c (by simp))]
  exact lastV_none t x fun c hc => h c (by simp [hc])
theorem rise_ne : ∀ (l : List Cel) (m : Int), Rise m l → ∀ c ∈ l, m < c.1
 | [], _, _, c, hc => by simp at hc
 | (i, x) :: t, m, h, c, hc => by
  rcases List.mem_cons.1 hc with rfl | hc
  ·exact h.1
  ·have := rise_ne t i h.2 c hc
   have := h.1
   omega
theorem lastV_at {k : Int} : ∀ (l : List Cel) (m : Int), Rise m l → lastV nought l k = atL l k
 | [], _, _ => rfl
 | (i, x) :: t, m, h => by
  unfold lastV atL
  simp only
  by_cases e : i = k
  ·rw [if_pos e, if_pos e]
   exact lastV_none t x fun c hc q => by have := rise_ne t i h.2 c hc; omega
  ·rw [if_neg e, if_neg e]
   exact lastV_at t i h.2
theorem rises_rise {n : Int} : ∀ (l : List Cel) (a : Int), risesB n a l = true → Rise a l
 | [], _, _ => trivial
 | (i, x) :: t, a, h => by
  unfold risesB at h
  simp at h
  exact ⟨by omega, rises_rise t i h.2⟩
theorem rises_sound {n : Int} {l : List Cel} {a : Int} (ha : -1 ≤ a) (h : risesB n a l = true) (hc : ∀ c ∈ l, Can c.2) : Sound l := fun c hm => by
 have h1 := (rises_bounds l a ha h c hm).2.2
 refine ⟨hc c hm, fun q => ?_⟩
 rw [((hc c hm).blank).2 q] at h1
 cases h1
theorem may_rises {n : Int} {l : List Cel} (h : mayB n l = true) : bndB n = true ∧ risesB n (-1) l = true := by
 unfold mayB at h
 simpa using h
theorem load_get {n : Int} {l : List Cel} (h : mayB n l = true) (hc : ∀ c ∈ l, Can c.2) (k : Int) : ((loadV n l).held k).getD nought = atL l k := by
 unfold loadV
 rw [holdAll_get l (newV n) hc]
 exact lastV_at l (-1) (rises_rise l _ (may_rises h).2)
theorem loadV_same (n : Int) (l : List Cel) : (loadV n l).n = n ∧ (loadV n l).wait = [] ∧ (loadV n l).stopped = false ∧ (loadV n l).reads = 0 ∧ (loadV n l).made = 0 ∧ (loadV n l).claims = 0 ∧ (loadV n l).ops = [] := by
 obtain ⟨h, e⟩ := holdAll_same l (newV n)
 unfold loadV
 rw [e]
 exact ⟨rfl, rfl, rfl, rfl, rfl, rfl, rfl⟩
theorem sim_load {n : Int} {l : List Cel} (h : mayB n l = true) (hc : ∀ c ∈ l, Can c.2) : Sim (rNew n l) (loadV n l) ∧ Cap (loadV n l) 0 := by
 obtain ⟨k1, k2⟩ := may_rises h
 obtain ⟨e1, e2, e3, e4, e5, e6, e7⟩ := loadV_same n l
 obtain ⟨hh, he⟩ := holdAll_same l (newV n)
 have hf : (loadV n l).fuse = -1 ∧ (loadV n l).claimed = false := by
  unfold loadV
  rw [he]
  exact ⟨rfl, rfl⟩
 refine ⟨⟨e1.symm, rises_rise l (-1) k2, rises_sound (Int.le_refl _) k2 hc, fun c hm => ?_, fun k => (load_get h hc k).symm, e2.symm, by rw [hf.1]; rfl, (fun q => by cases q), e3.symm, e7.symm, e5.symm, e4.symm, e6.symm, by rw [hf.2]; rfl, fun q => by rw [hf.2] at q; cases q⟩, ⟨by rw [e7]; exact Nat.le_refl _, by rw [e5]; exact Int.le_refl _, by rw [e4]; exact Int.le_refl _, by rw [e6]; exact Int.le_refl _⟩⟩
 rw [e1]
 exact ((may_bounds h).2 c hm).2.1
set_option maxRecDepth 20000 in
set_option maxHeartbeats 1000000 in
theorem refLoad_bad (n : Int) (l : List Cel) (p : Option Addr) (cap : Nat) (w : World) (hl : l.length ≤ 100000000) (h : ImgAt w p l) (hm : mayB n l = false) :
  Calls Tryz.prog 6 #[.agg #[.int .i64 n, .slice p l.length cap]] w fun e w' => e = .returned (.tuple #[.pointer none, .int .i64 4]) ∧ Below w.heap.size w w' := by
 have hB := below_new w (.cells #[.int .i64 n, .slice p l.length cap] 24)
 have hM := refMay_any n l p cap _ (by omega) (h.later hB)
 rw [hm] at hM
 go_enter Tryz.func6, Tryz.ntmps6
 go_wp2_with (go_at_call 29; refine hM.mono ?_; rintro e W1 ⟨rfl, hb1⟩)
 go_ret2
 exact ⟨rfl, below_next hB hb1⟩
theorem celsB_self (s : List Cel) (hs : ∀ c ∈ s, Can c.2) : celsB s s = true := (celsB_iff hs hs).2 rfl
set_option maxRecDepth 20000 in
set_option maxHeartbeats 1000000 in
theorem sameImage_self (n : Int) (s : List Cel) (p q : Option Addr) (cp cq : Nat) (w : World) (hls : s.length < 9223372036854775807) (hcan : ∀ c ∈ s, Can c.2) (hs : ImgAt w p s) (ht : ImgAt w q s) :
  Calls Tryz.prog 13 #[.agg #[.int .i64 n, .slice p s.length cp], .agg #[.int .i64 n, .slice q s.length cq]] w fun e w' => e = .returned (.bool true) ∧ Below w.heap.size w w' := by
 have hB := below_next (below_new w (.cells #[.int .i64 n, .slice p s.length cp] 24)) (below_new _ (.cells #[.int .i64 n, .slice q s.length cq] 24))
 have HC := sameHelds_any s s p q cp cq _ hls hls (hs.later hB) (ht.later hB)
 rw [celsB_self s hcan] at HC
 have HC := Hid.mk' HC
 go_enter Tryz.func13, Tryz.ntmps13
 go_wp2_with (go_at_call 66; fail)
 refine Calls.mono HC.out ?_
 rintro e W1 ⟨rfl, hb1⟩
 have HB := Hid.mk' (below_next hB hb1)
 clear hb1 HC hB
 go_wp2
 go_ret
 exact ⟨by simp, HB.out⟩
def scRow (n : Int) (p : Option Addr) (L cp : Nat) (gb gl gi : Int) : Array Value := #[.int .i64 n, .slice p L cp, .int .i64 gb, .int .i64 gl, .int .i64 gi]
set_option maxRecDepth 20000 in
set_option maxHeartbeats 1000000 in
theorem large_any (n : Int) (p : Option Addr) (L cp : Nat) (gb gl gi : Int) (w : World) : Calls Tryz.prog 5 #[.agg (scRow n p L cp gb gl gi)] w fun e w' => e = .returned (.bool (decide (300 < n ∨ 300 < (L : Int)))) ∧ Below w.heap.size w w' := by
 have HB := Hid.mk' (below_new w (.cells (scRow n p L cp gb gl gi) 28))
 unfold scRow at *
 by_cases h1 : 300 < n
 ·have e : decide (300 < n ∨ 300 < (L : Int)) = true := decide_eq_true (.inl h1)
  rw [e]
  clear e
  go_enter Tryz.func5, Tryz.ntmps5
  go_wp2
  go_ret
  exact ⟨rfl, HB.out⟩
 ·by_cases h2 : 300 < (L : Int)
  ·have e : decide (300 < n ∨ 300 < (L : Int)) = true := decide_eq_true (.inr h2)
   rw [e]
   clear e
   go_enter Tryz.func5, Tryz.ntmps5
   go_wp2
   go_ret
   exact ⟨rfl, HB.out⟩
  ·have e : decide (300 < n ∨ 300 < (L : Int)) = false := decide_eq_false (by omega)
   rw [e]
   clear e
   go_enter Tryz.func5, Tryz.ntmps5
   go_wp2
   go_ret
   exact ⟨rfl, HB.out⟩
structure Dsk2 (I : World → Prop) (d r : Nat) (n : Int) (O : List Rec) (S : List Cel) : Prop where
 hist : ∀ W, I W → Calls Tryz.prog 10 #[.pointer (some ⟨d, 0, none⟩)] W fun e W' => ∃ p c, e = .returned (.slice p O.length c) ∧ OpsAt W' p O ∧ Below W.heap.size W W'
 rhist : ∀ W, I W → Calls Tryz.prog 11 #[.pointer (some ⟨r, 0, none⟩)] W fun e W' => ∃ p c, e = .returned (.slice p O.length c) ∧ OpsAt W' p O ∧ Below W.heap.size W W'
 img : ∀ W, I W → Calls Tryz.prog 14 #[.pointer (some ⟨d, 0, none⟩)] W fun e W' => ∃ p c, e = .returned (.agg #[.int .i64 n, .slice p S.length c]) ∧ ImgAt W' p S ∧ Below W.heap.size W W'
 rimg : ∀ W, I W → Calls Tryz.prog 15 #[.pointer (some ⟨r, 0, none⟩)] W fun e W' => ∃ p c, e = .returned (.agg #[.int .i64 n, .slice p S.length c]) ∧ ImgAt W' p S ∧ Below W.heap.size W W'
section
variable {w W W' : World} {P g q d r m : Nat} {G : Int × Int × Int} {t : St} {u : RSt} {l : List Part} {I : World → Prop}
theorem cels_at {g : Nat} {S : List Cel} (h : W.heap[g]? = some (.cells (celCells S).toArray 76)) : ImgAt W (some ⟨g, 0, none⟩) S := fun _ => by
 refine ⟨g, 0, rfl, (Array.getElem?_eq_some_iff.1 h).1, fun k c hc => ?_⟩
 have hrow : ∀ j v, (celRow c)[j]? = some v → W.cell? ⟨g, k * 1025 + j, none⟩ = some v := fun j v hv => by
  have hj : j < 1025 := by have := (List.getElem?_eq_some_iff.1 hv).1; rwa [celRow_len] at this
  rw [Joins.cell_of_block h (k * 1025 + j), List.getElem?_toArray]
  unfold celCells
  rw [fm_get celRow 1025 celRow_len S k j c hc hj]
  exact hv
 refine ⟨?_, fun j v hv => ?_⟩
 ·have := hrow 0 (.int .i64 c.1) (by unfold celRow; rw [List.getElem?_cons_zero])
  rw [Nat.add_zero] at this
  rw [Nat.zero_add]
  exact this
 ·have := hrow (j + 1) v (by unfold celRow; rw [List.getElem?_cons_succ]; exact hv)
  rw [Nat.zero_add, show k * 1025 + 1 + j = k * 1025 + (j + 1) by omega]
  exact this
theorem recs_at {g : Nat} {O : List Rec} (h : W.heap[g]? = some (.cells (opCells O).toArray 98)) : OpsAt W (some ⟨g, 0, none⟩) O := fun _ => by
 refine ⟨g, 0, rfl, (Array.getElem?_eq_some_iff.1 h).1, fun k x hx j v hv => ?_⟩
 have hj : j < 1026 := by have := (List.getElem?_eq_some_iff.1 hv).1; rwa [recCells_len] at this
 rw [Nat.zero_add, Joins.cell_of_block h (k * 1026 + j), List.getElem?_toArray, opCells_get O k j x hx hj]
 exact hv
theorem own_ops {B : Nat} {v : Value} {O : List Rec} (h : W.ownsRow B 98 1026 v O.length (O.flatMap recCells)) : ∃ p c, v = .slice p O.length c ∧ OpsAt W p O := by
 rcases own_form h with ⟨hv, q⟩ | ⟨b, c, hv, hlt⟩
 ·refine ⟨none, 0, by rw [hv, q], fun h0 => by omega⟩
 ·subst hv
  refine ⟨_, c, rfl, fun _ => ⟨b, 0, rfl, hlt, fun k x hx j v hv => ?_⟩⟩
  rw [Nat.zero_add]
  exact own_get recCells_len h hx j v hv
theorem dsk2_of (hX : SimX u t) (hk : Ok t) (hC : Cap t m) (hm : m ≤ 6000000) (hI : ∀ W, I W → ∃ (L : Loc) (R : RLoc), L.d = d ∧ DiskAt W L t ∧ RDAt W R.B r R.hv R.wv R.ov u) : Dsk2 I d r t.n t.ops u.held := by
 have ho := hC.ops
 have hlen : u.held.length ≤ 2000000 := by
  have h9 := rise_len u.held (-1) hX.image.rise hX.image.top (by have := hk.n.1; omega)
  have := hk.n.2
  omega
 refine ⟨fun W hW => ?_, fun W hW => ?_, fun W hW => ?_, fun W hW => ?_⟩
 ·obtain ⟨L, R, rfl, hD, hR⟩ := hI W hW
  refine (history_of hD (by omega)).mono ?_
  rintro e W' ⟨rfl, h2, h3⟩
  exact ⟨_, _, rfl, recs_at h2, h3⟩
 ·obtain ⟨L, R, rfl, hD, hR⟩ := hI W hW
  refine (rHistory_any hR (by rw [hX.ops]; omega)).mono ?_
  rintro e W' ⟨v, rfl, h2, h3⟩
  rw [hX.ops] at h2
  obtain ⟨p, c, rfl, h4⟩ := own_ops h2
  exact ⟨p, c, rfl, h4, h3⟩
 ·obtain ⟨L, R, rfl, hD, hR⟩ := hI W hW
  refine (image_walk hD).mono ?_
  rintro e W' ⟨g, S, rfl, h2, h3, _, h5⟩
  obtain rfl : S = u.held := h2.one hX.image.rise hX.image.sound hX.image.at_
  exact ⟨_, _, rfl, cels_at h3, h5⟩
 ·obtain ⟨L, R, rfl, hD, hR⟩ := hI W hW
  refine (rImage_any hR (by omega)).mono ?_
  rintro e W' ⟨q, c, rfl, h2, h3⟩
  rw [hX.n]
  obtain ⟨p', c', hv, h4⟩ := own_img h2
  injection hv with hv hv1 hv2
  subst hv
  exact ⟨_, _, rfl, h4, h3⟩
theorem S4.ends {k : Bool} (h : S4 w P d r G m k W) (hm : m ≤ 1000000) : ∃ (I : World → Prop) (n : Int) (O : List Rec) (S : List Cel), I W ∧ (∀ W W', I W → Below W.heap.size W W' → I W') ∧ (∀ W, I W → Below w.heap.size w W ∧ W.cell? ⟨P, 3, none⟩ = some (.pointer (some ⟨d, 0, none⟩)) ∧ W.cell? ⟨P, 4, none⟩ = some (.pointer (some ⟨r, 0, none⟩))) ∧ Dsk2 I d r n O S ∧ O.length ≤ 10000000 ∧ S.length ≤ 10000000 ∧ (∀ c ∈ S, Can c.2) := by
 have row34 : ∀ {k : Bool} {la lb ma mb : Value} {W : World}, W.heap[P]? = some (.cells (pairK G d r k la lb ma mb) 45) → W.cell? ⟨P, 3, none⟩ = some (.pointer (some ⟨d, 0, none⟩)) ∧ W.cell? ⟨P, 4, none⟩ = some (.pointer (some ⟨r, 0, none⟩)) := fun {k la lb ma mb W} h => by
  rw [pairK_row] at h
  exact ⟨Joins.cell_of_block h 3, Joins.cell_of_block h 4⟩
 have lens : ∀ {t : St} {u : RSt}, SimX u t → Ok t → Cap t m → t.ops.length ≤ 10000000 ∧ u.held.length ≤ 10000000 ∧ ∀ c ∈ u.held, Can c.2 := fun {t u} hX hk hC => by
  have ho := hC.ops
  have h9 := rise_len u.held (-1) hX.image.rise hX.image.top (by have := hk.n.1; omega)
  have := hk.n.2
  exact ⟨by omega, by omega, fun c hc => (hX.image.sound c hc).1⟩
 obtain ⟨la, lb, ma, mb, h⟩ := h
 rcases h with ⟨t, u, pa, pb, h1, h2, h3, h4, h5, h6⟩ | ⟨g, q, x, t, book, y, u, pb, rfl, rfl, h3, h4, h5⟩ | ⟨g, q, x, t, book, y, u, pb, rfl, rfl, h3, h4, h5⟩
 ·obtain ⟨a1, a2, a3⟩ := lens h3 h6.ok h4
  refine ⟨fun X => Pd w X d r t u (oP P (.cells (pairK G d r k la lb ma mb) 45) :: (pa ++ pb)), t.n, t.ops, u.held, h6, fun _ _ h hb => h.later hb, fun X h => ⟨?_, row34 (h.kl _ _ (List.mem_cons_self ..))⟩, dsk2_of h3 h6.ok h4 (by omega) fun _ h => h.ats, a1, a2, a3⟩
  obtain ⟨L, R, _, _, hS⟩ := h.out
  exact hS.below
 ·obtain ⟨s, hI, hk⟩ := h5.inv
  obtain ⟨a1, a2, a3⟩ := lens h4.sim hk h4.cap
  refine ⟨fun X => Lv w X g q d r x t book y u (oP P (.cells (pairK G d r k _ lb _ mb) 45) :: pb), t.n, t.ops, u.held, h5, fun _ _ h hb => h.later hb, fun X h => ⟨?_, row34 (h.kl _ _ (List.mem_cons_self ..))⟩, dsk2_of h4.sim hk h4.cap (by omega) fun _ h => h.ats, a1, a2, a3⟩
  obtain ⟨Z, Y, R, _, _, hS⟩ := h.out
  exact hS.below
 ·obtain ⟨s, hI, hk⟩ := h5.inv
  obtain ⟨a1, a2, a3⟩ := lens h4.sim hk h4.cap
  refine ⟨fun X => Lv w X g q d r x t book y u (oP P (.cells (pairK G d r (!k) _ la _ ma) 45) :: pb), t.n, t.ops, u.held, h5, fun _ _ h hb => h.later hb, fun X h => ⟨?_, row34 (h.kl _ _ (List.mem_cons_self ..))⟩, dsk2_of h4.sim hk h4.cap (by omega) fun _ h => h.ats, a1, a2, a3⟩
  obtain ⟨Z, Y, R, _, _, hS⟩ := h.out
  exact hS.below
end
def actC (c : Int × Int × Int × Int × Int) : List Value := [.int .i64 c.1, .int .i64 c.2.1, .int .i64 c.2.2.1, .int .u8 c.2.2.2.1, .int .i64 c.2.2.2.2]
def ActsAt (w : World) (p : Option Addr) (l : List (Int × Int × Int × Int × Int)) : Prop := 0 < l.length → ∃ b off, p = some ⟨b, off, none⟩ ∧ b < w.heap.size ∧ ∀ k c, l[k]? = some c → ∀ j v, (actC c)[j]? = some v → w.cell? ⟨b, off + k * 5 + j, none⟩ = some v
theorem size48 : (Tryz.prog.info? 48).map (·.size) = some 5 := by kernel_rfl
theorem exec_ldAct {o : Oper} {a : Act} {X : World} {x : Operand} {b off : Nat} {c : Int × Int × Int × Int × Int} (ho : o.op = .load 48 x) (hx : a.eval x = .pointer (some ⟨b, off, none⟩)) (hg : ∀ j v, (actC c)[j]? = some v → X.cell? ⟨b, off + j, none⟩ = some v) : (execOp a.eval o).run Tryz.prog X = .ok (.value (.agg (actRow c.1 c.2.1 c.2.2.1 c.2.2.2.1 c.2.2.2.2))) X := by
 have e : (Instr.loadAt 48 (.pointer (some ⟨b, off, none⟩))).run Tryz.prog X = .ok (.agg (actC c).toArray) X := run_loadAt_mid (P := Tryz.prog) X b off 48 (actC c) _ (fun j v hv => hg j v hv) Tryz.underlying48 rfl size48
 unfold execOp
 simp only [ho, hx, e, Sem.run_bind, Result.andThen_ok, Sem.run_pure]
 rfl
theorem exec_ldIm {o : Oper} {a : Act} {X : World} {x : Operand} {b : Nat} {n gb gl gi : Int} {p : Option Addr} {L cp : Nat} (ho : o.op = .load 24 x) (hx : a.eval x = .pointer (some ⟨b, 0, none⟩)) (hg : X.heap[b]? = some (.cells (scRow n p L cp gb gl gi) 28)) : (execOp a.eval o).run Tryz.prog X = .ok (.value (.agg #[.int .i64 n, .slice p L cp])) X := by
 have hc : ∀ j v, [Value.int .i64 n, .slice p L cp][j]? = some v → X.cell? ⟨b, 0 + j, none⟩ = some v := fun j v hv => by
  have hj : j < 2 := (List.getElem?_eq_some_iff.1 hv).1
  rw [Nat.zero_add, Joins.cell_of_block hg j]
  rcases j with _ | _ | j
  ·exact hv
  ·exact hv
  ·omega
 have e : (Instr.loadAt 24 (.pointer (some ⟨b, 0, none⟩))).run Tryz.prog X = .ok (.agg [Value.int .i64 n, .slice p L cp].toArray) X := run_loadAt_mid (P := Tryz.prog) X b 0 24 _ _ (fun j v hv => hc j v hv) Tryz.underlying24 rfl (by kernel_rfl)
 unfold execOp
 simp only [ho, hx, e, Sem.run_bind, Result.andThen_ok, Sem.run_pure]
theorem exec_ldSc {o : Oper} {a : Act} {X : World} {x : Operand} {b : Nat} {n gb gl gi : Int} {p : Option Addr} {L cp : Nat} (ho : o.op = .load 28 x) (hx : a.eval x = .pointer (some ⟨b, 0, none⟩)) (hg : X.heap[b]? = some (.cells (scRow n p L cp gb gl gi) 28)) : (execOp a.eval o).run Tryz.prog X = .ok (.value (.agg (scRow n p L cp gb gl gi))) X := by
 have e : (Instr.loadAt 28 (.pointer (some ⟨b, 0, none⟩))).run Tryz.prog X = .ok (.agg (scRow n p L cp gb gl gi).toList.toArray) X := run_loadAt_mid (P := Tryz.prog) X b 0 28 _ _ (fun j v hv => by
  have := Joins.cell_of_block hg j
  rw [Nat.zero_add, this]
  rw [← hv]
  simp) Tryz.underlying28 rfl (by kernel_rfl)
 unfold execOp
 simp only [ho, hx, e, Sem.run_bind, Result.andThen_ok, Sem.run_pure]
theorem exec_ldGe {o : Oper} {a : Act} {X : World} {x : Operand} {b : Nat} {n gb gl gi : Int} {p : Option Addr} {L cp : Nat} (ho : o.op = .load 26 x) (hx : a.eval x = .pointer (some ⟨b, 2, none⟩)) (hg : X.heap[b]? = some (.cells (scRow n p L cp gb gl gi) 28)) : (execOp a.eval o).run Tryz.prog X = .ok (.value (.agg #[.int .i64 gb, .int .i64 gl, .int .i64 gi])) X := by
 have hc : ∀ j v, [Value.int .i64 gb, .int .i64 gl, .int .i64 gi][j]? = some v → X.cell? ⟨b, 2 + j, none⟩ = some v := fun j v hv => by
  have hj : j < 3 := (List.getElem?_eq_some_iff.1 hv).1
  rw [Joins.cell_of_block hg (2 + j)]
  rcases j with _ | _ | _ | j
  ·exact hv
  ·exact hv
  ·exact hv
  ·omega
 have e : (Instr.loadAt 26 (.pointer (some ⟨b, 2, none⟩))).run Tryz.prog X = .ok (.agg [Value.int .i64 gb, .int .i64 gl, .int .i64 gi].toArray) X := run_loadAt_mid (P := Tryz.prog) X b 2 26 _ _ (fun j v hv => hc j v hv) Tryz.underlying26 rfl size26
 unfold execOp
 simp only [ho, hx, e, Sem.run_bind, Result.andThen_ok, Sem.run_pure]
theorem isLoadT (t : TypeId) {ops : Array Oper} {rest : List Oper} {a : Act} {w : World} {Q : Exit → Act → World → Prop} {dst : Option Tmp} {x : Operand} {ty : TypeId} {pos : String} {aft : Array Edge} {gd : Option (Nat × Bool)} (h : wpList Tryz.prog ops Q (⟨dst, .load t x, ty, pos, aft, gd⟩ :: rest) a w) : wpList Tryz.prog ops Q (⟨dst, .load t x, ty, pos, aft, gd⟩ :: rest) a w := h
def Act5 (c : Int × Int × Int × Int × Int) : Prop := H.I64 c.2.2.1 ∧ 0 ≤ c.2.2.2.1 ∧ c.2.2.2.1 ≤ 255
theorem rd_from {W : World} {B g : Nat} {hv wv ov : Value} {u : RSt} (h : RDAt W B g hv wv ov u) {k : Nat} (hk : RHas g hv wv ov k) : B ≤ k ∧ k < W.heap.size := by
 refine ⟨?_, h.ltR hk⟩
 rcases hk with rfl | hk | hk | hk
 ·exact h.base
 ·exact (World.ownsRow.lt h.held k hk).1
 ·exact (World.ownsRow.lt h.wait k hk).1
 ·exact (World.ownsRow.lt h.ops k hk).1
theorem start_state {w A W1 W2 : World} {n : Int} {l : List Cel} {L : Loc} {gr : Nat} {v : Value} {G : Int × Int × Int} (hm : mayB n l = true) (hc : ∀ c ∈ l, Can c.2) (h0 : Below w.heap.size w A) (h1 : RDAt W1 A.heap.size gr v (.slice none 0 0) (.slice none 0 0) (rNew n l)) (b1 : Below A.heap.size A W1) (h2 : DiskAt W2 L (loadV n l)) (h3 : L.from W1.heap.size) (b2 : Below W1.heap.size W1 W2) : S4 w W2.heap.size L.d gr G 0 false (W2.alloc (.cells (pairRow G L.d gr (.pointer none) (.pointer none) (.pointer none) (.pointer none)) 45)) := by
 obtain ⟨s1, s2⟩ := sim_load hm hc
 have a1 := (Sep.nil h0).add (p := rdP ⟨A.heap.size, gr, v, .slice none 0 0, .slice none 0 0⟩ (rNew n l)) b1 (rdP_good _ _) h1 fun k hk => rd_from h1 hk
 have a2 := a1.add (p := dkP L (loadV n l)) b2 (dkP_good _ _) h2 fun k hk => ⟨h3 k hk, h2.lt k hk⟩
 have a3 := a2.add (p := oP W2.heap.size (.cells (pairRow G L.d gr (.pointer none) (.pointer none) (.pointer none) (.pointer none)) 45)) (below_new W2 _) (oP_good _ _) (heap_alloc_new _ _) fun k hk => by
  obtain rfl : k = W2.heap.size := hk
  simp
 exact ⟨.pointer none, .pointer none, .pointer none, .pointer none, .inl ⟨loadV n l, rNew n l, [], [], .inl ⟨rfl, rfl, rfl⟩, .inl ⟨rfl, rfl, rfl⟩, SimX.of s1, s2, ⟨by show (0 : Int) ≤ 0; omega, by show (0 : Int) ≤ 0; omega⟩, L, ⟨A.heap.size, gr, v, .slice none 0 0, .slice none 0 0⟩, rfl, rfl, a3.back⟩⟩
theorem S4.below {w W : World} {P d r m : Nat} {G : Int × Int × Int} {k : Bool} (h : S4 w P d r G m k W) (hm : m ≤ 1000000) : Below w.heap.size w W := by
 obtain ⟨I, n, O, S, h1, h2, h3, _⟩ := h.ends hm
 exact (h3 W h1).1
set_option maxRecDepth 20000 in
set_option maxHeartbeats 8000000 in
theorem calls_walk (n gb gl gi : Int) (p ps : Option Addr) (cp cps : Nat) (l : List Cel) (acts : List (Int × Int × Int × Int × Int)) (W : World) (hcan : ∀ c ∈ l, Can c.2) (him : ImgAt W p l) (hacts : ActsAt W ps acts) (ha : ∀ c ∈ acts, Act5 c) (hal : acts.length ≤ 9223372036854775807) (hll : l.length ≤ 9223372036854775807) :
  Calls Tryz.prog 3 #[.agg (scRow n p l.length cp gb gl gi), .slice ps acts.length cps] W fun e W' => e = .returned (.bool true) ∧ Below W.heap.size W W' := by
 have HIM := Hid.mk' him
 have HAC := Hid.mk' hacts
 have HA5 := Hid.mk' ha
 have HCAN := Hid.mk' hcan
 obtain ⟨N, hN⟩ : ∃ N, acts.length = N := ⟨_, rfl⟩
 have HN := Hid.mk' hN
 obtain ⟨L, hL⟩ : ∃ L, l.length = L := ⟨_, rfl⟩
 have HLL := Hid.mk' hL
 rw [hN, hL]
 rw [hN] at hal
 rw [hL] at hll
 have HX := Hid.mk' (heap_alloc_new W (.cells (scRow n p L cp gb gl gi) 28))
 have HBX := Hid.mk' (below_new W (.cells (scRow n p L cp gb gl gi) 28))
 clear him hacts ha hcan hN hL
 go_enter Tryz.func3, Tryz.ntmps3
 go_upto_region 1 with fail
 generalize W.alloc (.cells (scRow n p L cp gb gl gi) 28) = X at *
 go_wp2_with (go_at_call 4; fail)
 refine Calls.mono (lives_any X) ?_
 rintro e W1 ⟨rfl, hb1⟩
 have h28 := heap_kept HX.out hb1
 have HB1 : Hid (Below W.heap.size W W1) := below_next HBX.out hb1
 clear hb1 HX HBX
 go_wp2_with (first | (with_reducible refine isLoadT 28 ?_; refine wpList_ex8 rfl (exec_ldSc rfl rfl h28) ?_) | (go_at_call 5; fail))
 refine Calls.mono (large_any n p L cp gb gl gi W1) ?_
 rintro e W2 ⟨rfl, hb2⟩
 have h282 := heap_kept h28 hb2
 have HB2 : Hid (Below W.heap.size W W2) := below_next HB1.out hb2
 clear hb2 h28 HB1
 by_cases hbig : 300 < n ∨ 300 < (L : Int)
 ·rw [decide_eq_true hbig]
  clear hbig h282
  go_wp2
  go_ret
  exact ⟨rfl, HB2.out⟩
 rw [decide_eq_false hbig]
 by_cases hlong : 200 < (N : Int)
 ·clear hbig h282
  go_wp2
  go_ret
  exact ⟨rfl, HB2.out⟩
 have hL3 : L ≤ 300 := by omega
 have hN2 : N ≤ 200 := by omega
 clear hbig
 have HI2 : Hid (ImgAt W2 p l) := HIM.out.later HB2.out
 cases hmay : mayB n l
 ·have HR := Hid.mk' (refLoad_bad n l p cp W2 (by rw [HLL.out]; omega) HI2.out hmay)
  rw [HLL.out] at HR
  go_wp2_with (first | (with_reducible refine isLoadT 24 ?_; refine wpList_ex8 rfl (exec_ldIm rfl rfl h282) ?_) | (go_at_call 6; fail))
  refine Calls.mono HR.out ?_
  rintro e W3 ⟨rfl, hb3⟩
  have h283 := heap_kept h282 hb3
  have HD := Hid.mk' (load_bad n l p cp W3 (by rw [HLL.out]; omega) (HI2.out.later hb3) hmay)
  rw [HLL.out] at HD
  have HB3 : Hid (Below W.heap.size W W3) := below_next HB2.out hb3
  clear hb3 h282 HR HB2 HI2
  go_wp2_with (first | (with_reducible refine isLoadT 24 ?_; refine wpList_ex8 rfl (exec_ldIm rfl rfl h283) ?_) | (go_at_call 7; fail))
  refine Calls.mono HD.out ?_
  rintro e W4 ⟨rfl, hb4⟩
  have HB4 : Hid (Below W.heap.size W W4) := below_next HB3.out hb4
  clear hb4 h283 HD HB3
  go_wp2
  go_ret
  exact ⟨rfl, HB4.out⟩
 ·have HR := Hid.mk' (refLoad_made n l p cp W2 (by rw [HLL.out]; omega) HI2.out hmay)
  rw [HLL.out] at HR
  go_wp2_with (first | (with_reducible refine isLoadT 24 ?_; refine wpList_ex8 rfl (exec_ldIm rfl rfl h282) ?_) | (go_at_call 6; fail))
  refine Calls.mono HR.out ?_
  rintro e W3 ⟨r, vr, rfl, hrd, hb3⟩
  have h283 := heap_kept h282 hb3
  have HD := Hid.mk' (load_ok n l p cp W3 (by rw [HLL.out]; omega) (HI2.out.later hb3) HCAN.out hmay)
  rw [HLL.out] at HD
  have HST : Hid (∀ (W4 : World) (D : Loc), DiskAt W4 D (loadV n l) → D.from W3.heap.size → Below W3.heap.size W3 W4 → S4 W W4.heap.size D.d r (gb, gl, gi) 0 false (W4.alloc (.cells (pairRow (gb, gl, gi) D.d r (.pointer none) (.pointer none) (.pointer none) (.pointer none)) 45))) := fun W4 D q1 q2 q3 => start_state hmay HCAN.out HB2.out hrd hb3 q1 q2 q3
  clear hb3 h282 HR HI2 hrd HIM hmay
  go_wp2_with (first | (with_reducible refine isLoadT 24 ?_; refine wpList_ex8 rfl (exec_ldIm rfl rfl h283) ?_) | (go_at_call 7; fail))
  refine Calls.mono HD.out ?_
  rintro e W4 ⟨D, rfl, q1, q2, q3⟩
  have h284 := heap_kept h283 q3
  have HS0 := Hid.mk' (HST.out W4 D q1 q2 q3)
  clear q1 q2 q3 h283 HD HST HB2
  generalize D.d = d at *
  have hpr : pairRow (gb, gl, gi) d r (.pointer none) (.pointer none) (.pointer none) (.pointer none) = #[.int .i64 gb, .int .i64 gl, .int .i64 gi, .pointer (some ⟨d, 0, none⟩), .pointer (some ⟨r, 0, none⟩), .pointer none, .pointer none, .pointer none, .pointer none] := rfl
  rw [hpr] at HS0
  clear hpr
  go_upto_region 12 with (first | (with_reducible refine isLoadT 26 ?_; refine wpList_ex8 rfl (exec_ldGe rfl rfl h284) ?_))
  clear h284
  generalize W4.alloc (.cells #[.int .i64 gb, .int .i64 gl, .int .i64 gi, .pointer (some ⟨d, 0, none⟩), .pointer (some ⟨r, 0, none⟩), .pointer none, .pointer none, .pointer none, .pointer none] 45) = V0 at *
  generalize W4.heap.size = P at *
  go_wp2
  go_loopw [10] (fun s10 wx => ∃ i : Nat, i ≤ N ∧ s10 = .int .i64 i ∧ Hid (∃ k, S4 W P d r (gb, gl, gi) (600 * i) k wx)) (fun s10 _ => N - (intOf s10).toNat)
  case atStart => exact ⟨0, by omega, rfl, false, HS0.out⟩
  case round =>
   obtain ⟨i, hi, rfl, HS⟩ := hrel
   clear HS0
   by_cases hi2 : (i : Int) < N
   ·have hiL : i < acts.length := by rw [HN.out]; omega
    have hx : acts[i]? = some acts[i] := List.getElem?_eq_getElem hiL
    have hc5 := HA5.out _ (List.getElem_mem hiL)
    generalize acts[i] = c at hx hc5
    obtain ⟨k, hk⟩ := HS.out
    have hbe := hk.below (by omega)
    obtain ⟨b5, o5, rfl, hb5, hcell⟩ := HAC.out (by omega)
    have hact : ∀ j v, (actC c)[j]? = some v → wr.cell? ⟨b5, o5 + i * 5 + j, none⟩ = some v := fun j v hv => (hbe.cell (p := ⟨b5, o5 + i * 5 + j, none⟩) hb5).trans (hcell i c hx j v hv)
    have HA := Hid.mk' (act_any (on := c.1) (c := c.2.1) (n := c.2.2.1) (f := c.2.2.2.1) (tn := c.2.2.2.2) hk (by omega) hc5.1 hc5.2)
    clear hk hbe hcell hx hc5 hiL HS
    go_wp2_with (first | (with_reducible refine isLoadT 48 ?_; refine wpList_ex8 rfl (exec_ldAct rfl rfl hact) ?_) | (go_at_call 8; fail))
    refine Calls.mono HA.out ?_
    rintro e V1 ⟨rfl, k1, q1⟩
    obtain ⟨la, lb, ma, mb, q2⟩ := q1
    have HAL := Hid.mk' (q2.alike (by omega))
    clear q2 HA hact
    go_wp2_with (go_at_call 9; fail)
    refine Calls.mono HAL.out ?_
    rintro e V2 ⟨rfl, q3⟩
    have HS2 : Hid (∃ k, S4 W P d r (gb, gl, gi) (600 * (i + 1)) k V2) := ⟨k1, la, lb, ma, mb, q3.mono (by omega)⟩
    clear q3 HAL
    go_wp2
    exact ⟨⟨i + 1, by omega, by go_num, HS2.out⟩, by simp [intOf]; omega⟩
   ·obtain rfl : i = N := by omega
    obtain ⟨k, hk⟩ := HS.out
    obtain ⟨I, nn, O, S, e1, e2, e3, e4, e5, e6, e7⟩ := hk.ends (by omega)
    have HE2 := Hid.mk' e2
    have HE3 := Hid.mk' e3
    have HE4 := Hid.mk' e4
    have HE7 := Hid.mk' e7
    have HI0 := Hid.mk' e1
    obtain ⟨_, p3, p4⟩ := e3 wr e1
    clear hk HS e1 e2 e3 e4 e7 HAC HA5
    go_wp2_with (go_at_call 10; fail)
    refine Calls.mono (HE4.out.hist _ HI0.out) ?_
    rintro e V1 ⟨pa, ca, rfl, oa, ba⟩
    have HI1 := Hid.mk' (HE2.out _ _ HI0.out ba)
    have HOA := Hid.mk' oa
    obtain ⟨_, p3, p4⟩ := HE3.out V1 HI1.out
    clear HI0 oa ba
    go_wp2_with (go_at_call 11; fail)
    refine Calls.mono (HE4.out.rhist _ HI1.out) ?_
    rintro e V2 ⟨pb, cb, rfl, ob, bb⟩
    have HI2 := Hid.mk' (HE2.out _ _ (HE2.out _ _ HI1.out bb) (Below.refl _ _).drew)
    have HOA2 := Hid.mk' ((HOA.out.later bb).later (Below.refl _ _).drew)
    have HOB2 := Hid.mk' (ob.later (Below.refl _ _).drew)
    clear HI1 ob bb HOA p3 p4
    go_wp2
    refine wp_region_ord (S := fun X => X.cell? ⟨P, 3, none⟩ = some (.pointer (some ⟨d, 0, none⟩)) ∧ X.cell? ⟨P, 4, none⟩ = some (.pointer (some ⟨r, 0, none⟩))) [(0, true), (1, true), (2, false), (3, true), (4, true), (5, true), (6, true), (7, true), (9, true), (10, true), (11, true), (12, true), (8, false), (13, false), (14, false), (15, true), (16, true)] (by kernel_rfl) rfl (by kernel_rfl) (fun d _ _ _ _ h => by cases d <;> exact h) (HE3.out _ HI2.out).2 ?_
    simp only [inOrd, List.getElem?_cons_zero, List.getElem?_cons_succ]
    refine wpOrd_yield (v := .slice pa O.length ca) rfl (fun u _ => exec_mvP rfl rfl) ?_
    simp only [Act.put, pA, pB, pC]
    refine wpOrd_yield (v := .slice pb O.length cb) rfl (fun u _ => exec_mvP rfl rfl) ?_
    simp only [Act.put, pA, pB, pC]
    refine wpOrd_call rfl 12 _ _ rfl Tryz.call12 [.slice pa O.length ca, .slice pb O.length cb] rfl ?_
    refine Calls.mono (sameOps_any O O pa pb ca cb V2.drew (by omega) (by omega) HOA2.out HOB2.out) ?_
    rintro e V3 ⟨he, b3⟩
    rw [recsB_self] at he
    subst he
    have HI3 := Hid.mk' (HE2.out _ _ HI2.out b3)
    refine ⟨_, rfl, (HE3.out _ HI3.out).2, ?_⟩
    clear HI2 HOA2 HOB2 b3
    simp only [Act.put, pA, pB, pC]
    refine wpOrd_yield (v := .bool true) rfl (fun u _ => exec_mvP rfl rfl) ?_
    simp only [Act.put, pA, pB, pC]
    refine wpOrd_yield (v := .pointer (some ⟨P, 0, none⟩)) rfl (fun u _ => exec_mvP rfl rfl) ?_
    simp only [Act.put, pA, pB, pC]
    refine wpOrd_yield (v := .pointer (some ⟨P, 0, none⟩)) rfl (fun u _ => by go_simp) ?_
    simp only [Act.put, pA, pB, pC]
    refine wpOrd_yield (v := .pointer (some ⟨P, 3, none⟩)) rfl (fun u _ => by go_simp) ?_
    simp only [Act.put, pA, pB, pC]
    refine wpOrd_yield (v := .pointer (some ⟨d, 0, none⟩)) rfl (fun u hu => by have := hu.1; go_simp) ?_
    simp only [Act.put, pA, pB, pC]
    refine wpOrd_yield (v := .pointer (some ⟨P, 0, none⟩)) rfl (fun u _ => exec_mvP rfl rfl) ?_
    simp only [Act.put, pA, pB, pC]
    refine wpOrd_yield (v := .pointer (some ⟨P, 0, none⟩)) rfl (fun u _ => by go_simp) ?_
    simp only [Act.put, pA, pB, pC]
    refine wpOrd_yield (v := .pointer (some ⟨P, 4, none⟩)) rfl (fun u _ => by go_simp) ?_
    simp only [Act.put, pA, pB, pC]
    refine wpOrd_yield (v := .pointer (some ⟨r, 0, none⟩)) rfl (fun u hu => by have := hu.2; go_simp) ?_
    simp only [Act.put, pA, pB, pC]
    refine wpOrd_call rfl 14 _ _ rfl Tryz.call14 [.pointer (some ⟨d, 0, none⟩)] rfl ?_
    refine Calls.mono (HE4.out.img _ HI3.out) ?_
    rintro e V4 ⟨pc, cc, rfl, ic, b4⟩
    have HI4 := Hid.mk' (HE2.out _ _ HI3.out b4)
    have HIC := Hid.mk' ic
    refine ⟨_, rfl, (HE3.out _ HI4.out).2, ?_⟩
    clear HI3 ic b4
    simp only [Act.put, pA, pB, pC]
    refine wpOrd_call rfl 15 _ _ rfl Tryz.call15 [.pointer (some ⟨r, 0, none⟩)] rfl ?_
    refine Calls.mono (HE4.out.rimg _ HI4.out) ?_
    rintro e V5 ⟨pd, cd, rfl, id5, b5⟩
    have HI5 := Hid.mk' (HE2.out _ _ HI4.out b5)
    have HIC5 := Hid.mk' (HIC.out.later b5)
    have HID5 := Hid.mk' id5
    refine ⟨_, rfl, (HE3.out _ HI5.out).2, ?_⟩
    clear HI4 id5 b5 HIC
    simp only [Act.put, pA, pB, pC]
    refine wpOrd_call rfl 13 _ _ rfl Tryz.call13 [.agg #[.int .i64 nn, .slice pc S.length cc], .agg #[.int .i64 nn, .slice pd S.length cd]] rfl ?_
    refine Calls.mono (sameImage_self nn S pc pd cc cd V5 (by omega) HE7.out HIC5.out HID5.out) ?_
    rintro e V6 ⟨rfl, b6⟩
    have HI6 := Hid.mk' (HE2.out _ _ HI5.out b6)
    refine ⟨_, rfl, (HE3.out _ HI6.out).2, ?_⟩
    clear HI5 HIC5 HID5 b6
    simp only [Act.put, pA, pB, pC]
    refine wpOrd_yield (v := .bool true) rfl (fun u _ => by go_simp) ?_
    simp only [Act.put, pA, pB, pC]
    refine wpOrd_yield (v := .bool true) rfl (fun u _ => by go_simp) ?_
    simp only [Act.put, pA, pB, pC]
    refine wpOrd_nil ?_
    have HB6 := Hid.mk' (HE3.out _ HI6.out).1
    clear HI6 HE2 HE3 HE4 HE7
    go_wp2
    go_ret
    exact ⟨rfl, HB6.out⟩
end Go.Proofs.YtichojdcoegboaaGreatW
namespace Go.Proofs.YtichojdcoegboaaGreatW
open Go.RowKit Go.ChangeShapes Go.WideShapes
theorem cellsO76 : Tryz.prog.cellsOf 76 = 1025 := by kernel_rfl
theorem cellsO64 : Tryz.prog.cellsOf 64 = 1024 := by kernel_rfl
theorem cellsO5 : Tryz.prog.cellsOf 5 = 1 := by kernel_rfl
theorem cellsO3 : Tryz.prog.cellsOf 3 = 1 := by kernel_rfl
theorem cellsO24 : Tryz.prog.cellsOf 24 = 2 := by kernel_rfl
theorem cellsO22 : Tryz.prog.cellsOf 22 = 1 := by kernel_rfl
theorem cellsO26 : Tryz.prog.cellsOf 26 = 3 := by kernel_rfl
theorem cellsO28 : Tryz.prog.cellsOf 28 = 5 := by kernel_rfl
section
variable {Hh : Type} {enc : TypeId × Value → Hh} {w : World} {base : Nat} {sp : Nat → Bool} {held : Bool} {v : Value} {x : DataW Hh × List MemPlace} {fuel : Nat}
theorem cellLt {b off : Nat} {v : Value} (h : w.cell? ⟨b, off, none⟩ = some v) : b < w.heap.size := by
 by_cases q : b < w.heap.size
 ·exact q
 ·unfold World.cell? at h
  simp only [Array.getElem?_eq_none (show w.heap.size ≤ b by omega)] at h
  simp at h
theorem plain_addr {a : Addr} {v : Value} (h : w.cell? (a.add 0) = some v) : ∃ b off, a = ⟨b, off, none⟩ ∧ b < w.heap.size := by
 obtain ⟨b, off, spot⟩ := a
 have hs : spot = none := by simpa [Addr.add] using World.cell?_spot h
 subst hs
 rw [Go.WideShapes.add_plain] at h
 exact ⟨b, off, rfl, cellLt h⟩
theorem int_of_trod {c : List Value} {n : Nat} {y : Option (DataW Hh × List MemPlace)} {z : DataW Hh × List MemPlace} (h : DataW.trod enc Tryz.prog w base sp held n 3 c = y) (hy : y = some z) : ∃ k, c = [.int .i64 k] ∧ -9223372036854775808 ≤ k ∧ k ≤ 9223372036854775807 := by
 rw [hy] at h
 obtain ⟨k, hk, _, hw⟩ := DataW.trod_int Tryz.underlying3 h
 have := bounds_i64 hw
 exact ⟨k, hk, this.1, this.2⟩
theorem blk_of_trod {cs : List Value} {n : Nat} {y : Option (DataW Hh × List MemPlace)} {z : DataW Hh × List MemPlace} (h : DataW.trod enc Tryz.prog w base sp held n 64 cs = y) (hy : y = some z) (hsz : cs.length = 1024) : ∃ f, Can f ∧ cs = (blk f).toList := by
 rw [hy] at h
 obtain ⟨xs, m, rfl, _, _, hl, hx⟩ := DataW.trod_array Tryz.underlying64 h
 have hc : ∀ i, i < 1024 → ∃ z : Int, (0 ≤ z ∧ z ≤ 255) ∧ cs[i]? = some (.int .u8 z) := by
  intro i hi
  have h1 := hx i hi
  rw [cellsO5, Nat.mul_one] at h1
  have hi' : i < xs.length := by omega
  rw [List.getElem?_eq_getElem hi'] at h1
  obtain ⟨z, hz, _, hw⟩ := DataW.trod_int Tryz.underlying5 h1
  refine ⟨z, bounds_u8 hw, ?_⟩
  have := congrArg (·[0]?) hz
  simpa [List.getElem?_take, List.getElem?_drop, Value.cells] using this
 have key : ∃ f : Nat → Int, ∀ i, i < 1024 → (0 ≤ f i ∧ f i ≤ 255) ∧ cs[i]? = some (.int .u8 (f i)) :=
  ⟨fun i => if h : i < 1024 then (hc i h).choose else 0, fun i hi => by
   simp only [hi, dif_pos]
   exact (hc i hi).choose_spec⟩
 obtain ⟨f, hf⟩ := key
 refine ⟨firsts f 1024, ⟨fun i => ?_, fun i hi => by unfold firsts; rw [if_neg (by omega)]⟩, ?_⟩
 ·unfold firsts
  by_cases hi : i < 1024
  ·rw [if_pos hi]; exact (hf i hi).1
  ·rw [if_neg hi]; omega
 ·apply List.ext_getElem?
  intro i
  by_cases hi : i < 1024
  ·rw [(hf i hi).2, Array.getElem?_toList, blk_get _ _ hi]
   unfold firsts
   rw [if_pos hi]
  ·rw [List.getElem?_eq_none (by omega), List.getElem?_eq_none (by rw [blk_list_len]; omega)]
theorem list2 {α : Type} {l : List α} (h : l.length = 2) : ∃ a b, l = [a, b] := by
 match l, h with
 | [a, b], _ => exact ⟨a, b, rfl⟩
theorem list3 {α : Type} {l : List α} (h : l.length = 3) : ∃ a b c, l = [a, b, c] := by
 match l, h with
 | [a, b, c], _ => exact ⟨a, b, c, rfl⟩
theorem list5 {α : Type} {l : List α} (h : l.length = 5) : ∃ a b c d e, l = [a, b, c, d, e] := by
 match l, h with
 | [a, b, c, d, e], _ => exact ⟨a, b, c, d, e, rfl⟩
theorem add_at {b off i j : Nat} : ((⟨b, off, none⟩ : Addr).add i).add j = ⟨b, off + i + j, none⟩ := by
 rw [Go.WideShapes.add_plain, Go.WideShapes.add_plain]
theorem plain_rows {a : Addr} {k : Nat} {cs : List Value} (h : w.cells? base (a.add (0 * k)) k = some cs) (hk : 0 < k) : ∃ b off, a = ⟨b, off, none⟩ ∧ b < w.heap.size := by
 obtain ⟨_, hlen, hcell⟩ := World.cells?_some h
 have h0 := hcell 0 hk
 rw [Nat.zero_mul, Go.Deep.add_add, Nat.add_zero, List.getElem?_eq_getElem (by omega)] at h0
 exact plain_addr h0
theorem cel_of_trod {cs : List Value} {n : Nat} (h : DataW.trod enc Tryz.prog w base sp held n 76 cs = some x) (hl : cs.length = 1025) : ∃ c : Cel, Can c.2 ∧ cs = celRow c := by
 obtain ⟨xs, q, _, _, _, hxl, hf⟩ := DataW.trod_struct Tryz.underlying76 h
 obtain ⟨y0, y1, rfl⟩ := list2 (show xs.length = 2 from hxl)
 have g0 : DataW.trod enc Tryz.prog w base sp held q 3 ((cs.drop 0).take (Tryz.prog.cellsOf 3)) = some y0 := hf 0 _ rfl
 have g1 : DataW.trod enc Tryz.prog w base sp held q 64 ((cs.drop 1).take (Tryz.prog.cellsOf 64)) = some y1 := hf 1 _ rfl
 rw [cellsO3, List.drop_zero] at g0
 rw [cellsO64] at g1
 obtain ⟨k, hk, _⟩ := int_of_trod g0 rfl
 obtain ⟨f, hcan, hfe⟩ := blk_of_trod g1 rfl (by rw [List.length_take, List.length_drop, hl]; omega)
 refine ⟨(k, f), hcan, ?_⟩
 have e1 : (cs.drop 1).take 1024 = cs.drop 1 := List.take_of_length_le (by rw [List.length_drop, hl]; omega)
 rw [e1] at hfe
 rw [← List.take_append_drop 1 cs, hk, hfe]
 rfl
theorem helds_of_trod (h : DataW.trod enc Tryz.prog w base sp held fuel 22 [v] = some x) : ∃ a cap l, v = .slice a (List.length l) cap ∧ ImgAt w a l ∧ l.length ≤ maxLen ∧ l.length ≤ cap ∧ ∀ c ∈ l, Can c.2 := by
 rcases Go.Deep.open_slice Tryz.underlying22 h with ⟨h0, _⟩ | ⟨a, len, cap, m, n, D, Pl, hv, _, hl, hm, hmm, _, hc⟩
 ·have hv : v = .slice none 0 0 := by simpa using h0
  subst hv
  exact ⟨none, 0, [], rfl, fun q => by simp at q, by simp, by simp, fun c hc => by simp at hc⟩
 ·have hv' : v = .slice (some a) len cap := by simpa using hv
  subst hv'
  have hlm : len ≤ m := by rw [hmm]; split <;> omega
  have key : ∀ i, ∃ c : Cel, Can c.2 ∧ (i < len → w.cells? base (a.add (i * 1025)) 1025 = some (celRow c)) := fun i => by
   by_cases hi : i < len
   ·obtain ⟨cs, h1, h2⟩ := hc i (by omega)
    rw [cellsO76] at h1
    obtain ⟨_, hlen, _⟩ := World.cells?_some h1
    obtain ⟨c, hcan, rfl⟩ := cel_of_trod h2 hlen
    exact ⟨c, hcan, fun _ => h1⟩
   ·exact ⟨(0, nought), can_nought, fun q => absurd q hi⟩
  obtain ⟨f, hf⟩ := Classical.skolem.1 key
  have hll : ((List.range len).map f).length = len := by simp
  refine ⟨some a, cap, (List.range len).map f, by rw [hll], fun h0 => ?_, by rw [hll]; omega, by rw [hll]; exact hl, fun c hc => ?_⟩
  ·rw [hll] at h0
   obtain ⟨b, off, rfl, hb⟩ := plain_rows ((hf 0).2 (by omega)) (by omega)
   refine ⟨b, off, rfl, hb, fun k c hk => ?_⟩
   have hi : k < len := by have := (List.getElem?_eq_some_iff.1 hk).1; rwa [hll] at this
   rw [List.getElem?_map, List.getElem?_range hi] at hk
   have ec : f k = c := by simpa using hk
   obtain ⟨_, _, hcell⟩ := World.cells?_some ((hf k).2 hi)
   rw [ec] at hcell
   refine ⟨?_, fun j u hu => ?_⟩
   ·have := hcell 0 (by omega)
    rw [add_at] at this
    rw [Nat.add_zero] at this
    rw [this]
    rfl
   ·have hj : j < 1024 := by have := (List.getElem?_eq_some_iff.1 hu).1; rwa [blk_list_len] at this
    have := hcell (j + 1) (by omega)
    rw [add_at, show off + k * 1025 + (j + 1) = off + k * 1025 + 1 + j by omega] at this
    rw [this]
    unfold celRow
    rw [List.getElem?_cons_succ]
    exact hu
  ·obtain ⟨i, _, rfl⟩ := List.mem_map.1 hc
   exact (hf i).1
theorem list5b {α : Type} {l : List α} (h : l.length = 5) : ∃ a b c d e, l = [a, b, c, d, e] := by
 match l, h with
 | [a, b, c, d, e], _ => exact ⟨a, b, c, d, e, rfl⟩
theorem scene_of_trod {cs : List Value} (h : DataW.trod enc Tryz.prog w base sp held fuel 28 cs = some x) (hl : cs.length = 5) : ∃ n p l cp gb gl gi, cs = [.int .i64 n, .slice p (List.length l) cp, .int .i64 gb, .int .i64 gl, .int .i64 gi] ∧
  ImgAt w p l ∧ l.length ≤ maxLen ∧ (∀ c ∈ l, Can c.2) ∧ (-9223372036854775808 ≤ gb ∧ gb ≤ 9223372036854775807) := by
 obtain ⟨v0, v1, v2, v3, v4, rfl⟩ := list5b hl
 obtain ⟨xs, m, _, _, _, hxl, hf⟩ := DataW.trod_struct Tryz.underlying28 h
 obtain ⟨y0, y1, rfl⟩ := list2 (show xs.length = 2 from hxl)
 have g0 := hf 0 _ rfl
 have g1 := hf 1 _ rfl
 simp [cellsO24, cellsO26] at g0 g1
 obtain ⟨us, mm, _, _, _, hul, hg⟩ := DataW.trod_struct Tryz.underlying24 g0
 obtain ⟨z0, z1, rfl⟩ := list2 (show us.length = 2 from hul)
 have i0 := hg 0 _ rfl
 have i1 := hg 1 _ rfl
 simp [cellsO3, cellsO22] at i0 i1
 obtain ⟨n, hn, _⟩ := int_of_trod i0 rfl
 obtain ⟨a, cap, l, rfl, h2, h3, _, h5⟩ := helds_of_trod i1
 obtain ⟨ts, mk, _, _, _, htl, hk⟩ := DataW.trod_struct Tryz.underlying26 g1
 obtain ⟨t0, t1, t2, rfl⟩ := list3 (show ts.length = 3 from htl)
 have j0 := hk 0 _ rfl
 have j1 := hk 1 _ rfl
 have j2 := hk 2 _ rfl
 simp [cellsO3] at j0 j1 j2
 obtain ⟨gb, hgb, hb⟩ := int_of_trod j0 rfl
 obtain ⟨gl, hgl, _⟩ := int_of_trod j1 rfl
 obtain ⟨gi, hgi, _⟩ := int_of_trod j2 rfl
 have e0 : v0 = .int .i64 n := by simpa using hn
 have e2 : v2 = .int .i64 gb := by simpa using hgb
 have e3 : v3 = .int .i64 gl := by simpa using hgl
 have e4 : v4 = .int .i64 gi := by simpa using hgi
 subst e0 e2 e3 e4
 exact ⟨n, a, l, cap, gb, gl, gi, rfl, h2, h3, h5, hb⟩
theorem cellsO48 : Tryz.prog.cellsOf 48 = 5 := by kernel_rfl
set_option maxRecDepth 100000 in
theorem acts_of_trod (h : DataW.trod enc Tryz.prog w base sp held fuel 29 [v] = some x) : ∃ a cap cs, v = .slice a (List.length cs) cap ∧ ActsAt w a cs ∧ cs.length ≤ 9223372036854775807 ∧ ∀ c ∈ cs, Act5 c := by
 rcases Go.Deep.open_slice Tryz.underlying29 h with ⟨h0, _⟩ | ⟨a, len, cap, m, n, D, Pl, hv, _, hl, hm, hmm, _, hc⟩
 ·have hv : v = .slice none 0 0 := by simpa using h0
  subst hv
  exact ⟨none, 0, [], rfl, fun q => by simp at q, by simp, fun c hc => by simp at hc⟩
 ·have hv' : v = .slice (some a) len cap := by simpa using hv
  subst hv'
  have hlm : len ≤ m := by rw [hmm]; split <;> omega
  have key : ∀ r, ∃ c : Int × Int × Int × Int × Int, Act5 c ∧ (r < len → ∃ b off, a = ⟨b, off, none⟩ ∧ b < w.heap.size ∧ ∀ j v, (actC c)[j]? = some v → w.cell? ⟨b, off + r * 5 + j, none⟩ = some v) := fun r => by
   by_cases hr : r < len
   ·obtain ⟨cs0, h01, _⟩ := hc 0 (by omega)
    obtain ⟨cs, h1, h2⟩ := hc r (by omega)
    obtain ⟨b, off, rfl, hb⟩ := plain_rows h01 (by rw [cellsO48]; omega)
    rw [cellsO48] at h1
    obtain ⟨_, hlen, hcell⟩ := World.cells?_some h1
    obtain ⟨xs, q, _, _, _, hxl, hf⟩ := DataW.trod_struct Tryz.underlying48 h2
    obtain ⟨y0, y1, y2, y3, y4, rfl⟩ := list5 (show xs.length = 5 from hxl)
    obtain ⟨v0, v1, v2, v3, v4, rfl⟩ := list5 hlen
    have g0 := hf 0 _ rfl
    have g1 := hf 1 _ rfl
    have g2 := hf 2 _ rfl
    have g3 := hf 3 _ rfl
    have g4 := hf 4 _ rfl
    simp [cellsO3, cellsO5] at g0 g1 g2 g3 g4
    obtain ⟨k0, hk0, _⟩ := int_of_trod g0 rfl
    obtain ⟨k1, hk1, _⟩ := int_of_trod g1 rfl
    obtain ⟨k2, hk2, hb2⟩ := int_of_trod g2 rfl
    obtain ⟨k3, hk3, _, hw3⟩ := DataW.trod_int Tryz.underlying5 g3
    obtain ⟨k4, hk4, _⟩ := int_of_trod g4 rfl
    have e0 : v0 = .int .i64 k0 := by simpa using hk0
    have e1 : v1 = .int .i64 k1 := by simpa using hk1
    have e2 : v2 = .int .i64 k2 := by simpa using hk2
    have e3 : v3 = .int .u8 k3 := by simpa using hk3
    have e4 : v4 = .int .i64 k4 := by simpa using hk4
    subst e0 e1 e2 e3 e4
    have hb3 := bounds_u8 hw3
    refine ⟨(k0, k1, k2, k3, k4), ⟨hb2, hb3.1, hb3.2⟩, fun _ => ⟨b, off, rfl, hb, fun j v hv => ?_⟩⟩
    have hj : j < 5 := (List.getElem?_eq_some_iff.1 hv).1
    have t0 := hcell j hj
    rw [add_at] at t0
    exact t0.trans hv
   ·exact ⟨(0, 0, 0, 0, 0), ⟨by show H.I64 0; unfold H.I64; omega, by show (0 : Int) ≤ 0; omega, by show (0 : Int) ≤ 255; omega⟩, fun q => absurd q hr⟩
  obtain ⟨f, hf⟩ := Classical.skolem.1 key
  have hll : ((List.range len).map f).length = len := by simp
  refine ⟨some a, cap, (List.range len).map f, by rw [hll], fun h0 => ?_, by rw [hll]; unfold maxLen at hm; omega, fun c hc => ?_⟩
  ·rw [hll] at h0
   obtain ⟨b, off, rfl, hb, _⟩ := (hf 0).2 h0
   refine ⟨b, off, rfl, hb, fun k c hk => ?_⟩
   have hi : k < len := by have := (List.getElem?_eq_some_iff.1 hk).1; rwa [hll] at this
   rw [List.getElem?_map, List.getElem?_range hi] at hk
   have ec : f k = c := by simpa using hk
   obtain ⟨b', off', e, _, k0⟩ := (hf k).2 hi
   injection e with e1 e2
   subst e1 e2
   rw [ec] at k0
   exact k0
  ·obtain ⟨k, _, rfl⟩ := List.mem_map.1 hc
   exact (hf k).1
end
end Go.Proofs.YtichojdcoegboaaGreatW
