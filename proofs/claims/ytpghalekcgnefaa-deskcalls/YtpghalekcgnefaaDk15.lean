/- The law's walk over All, stopped, one held meanwhile, gone over again: it answers true, and both desks hold one more; for desks that hold fewer than a million inodes. -/
import Derived.Test.YtpghalekcgnefaaDk14
import Derived.Test.YtpghalekcgnefaaOrd
namespace Go.Proofs.Ytpghalekcgnefaa
open Go.RowKit Go.Maps Go.Shelf
attribute [local go_sem] Oper.semAt_some
attribute [local simp, local go_sem] wide_fn wide_depth
section
variable {w W : World} {g b : Nat} {m : Int} {L : List (Int × Int)} {l : List Part} {c : Nat}
theorem all_at (h : DeskAt w g b m L) (ho : Dok m L c) (hc : c < 1000000) : Calls Try.prog 19 #[.pointer (some ⟨g, 0, none⟩)] w fun e w' => ∃ q v, e = .returned (.func (.func 28) #[] #[.pointer (some ⟨q, 0, none⟩)]) ∧ w'.heap[q]? = some (.cells #[v] 59) ∧ w.heap.size ≤ q ∧ w'.ownsRow w.heap.size 63 2 v L.length (L.flatMap pc2) ∧ Below w.heap.size w w' := by
  have h0 := rising_ok h ho hc
  clear h ho
  go_enter Try.func19, Try.ntmps19
  go_wp2_with (go_at_call 27; fail)
  refine h0.mono ?_
  rintro e V1 ⟨v, rfl, ho, hb⟩
  have hsz := hb.size
  obtain ⟨ap, an, ac, rfl⟩ := slice_of ho
  have HB : Hid (Below w.heap.size w (V1.alloc (.cells #[.slice ap an ac] 59))) := below_next hb (below_new V1 (.cells #[.slice ap an ac] 59))
  have HR : Hid ((V1.alloc (.cells #[.slice ap an ac] 59)).heap[V1.heap.size]? = some (.cells #[.slice ap an ac] 59)) := heap_alloc_new _ _
  have HO : Hid ((V1.alloc (.cells #[.slice ap an ac] 59)).ownsRow w.heap.size 63 2 (.slice ap an ac) L.length (L.flatMap pc2)) := own_later ho (below_new _ _)
  clear h0 hb ho
  go_upto_region 2 with fail
  generalize V1.alloc (.cells #[.slice ap an ac] 59) = V2 at *
  go_wp2
  exact bodyPost_ret (results_tmp rfl _ _ _) rfl ⟨_, _, rfl, HR.out, hsz, HO.out, HB.out⟩
theorem Sep.allD (h : Sep w W (dkP g b m L :: l)) (ho : Dok m L c) (hc : c < 1000000) {l' : List Part} (hl : Sep w W l') : Calls Try.prog 19 #[.pointer (some ⟨g, 0, none⟩)] W fun e W' => ∃ q v, e = .returned (.func (.func 28) #[] #[.pointer (some ⟨q, 0, none⟩)]) ∧ Sep w W' (clP q v 59 63 L :: l') := by
  refine (all_at h.desk ho hc).mono ?_
  rintro e W' ⟨q, v, he, h1, h2, h3, hb⟩
  refine ⟨q, v, he, hl.add hb (clP_good _ _ _ _ _) ⟨h1, World.ownsRow.mono h3 (Nat.zero_le _)⟩ ?_⟩
  rintro k (rfl | e)
  · exact ⟨h2, (Array.getElem?_eq_some_iff.1 h1).1⟩
  · exact h3.lt k e
/-- What the walk holds side by side. -/
def wkL (hn : Nat) (n : Int) (q : Nat) (vq : Value) (h7 : Nat) (v1 : Value) (B6 B5 : Nat) (s : Int) (L : List (Int × Int)) (l : List Part) : List Part := bxP hn #[.int .i64 n] 3 :: clP q vq 59 63 L :: clP h7 v1 52 57 L :: bxP B6 #[.bool false] 4 :: bxP B5 #[.int .i64 s] 3 :: l
end
theorem exec_mv {o : Oper} {a : Act} {x : Operand} {v : Value} {W : World} (ho : o.op = .move x) (hx : a.eval x = v) : (execOp a.eval o).run Try.prog W = .ok (.value v) W := by simp [execOp, ho, hx]
def noPanic (Q : Exit → Act → World → Prop) : Exit → Act → World → Prop := fun e a w => match e with
  | .panic _ => False
  | e' => Q e' a w
theorem noPanic_normal {Q : Exit → Act → World → Prop} {a : Act} {u : World} (h : Q .normal a u) : noPanic Q .normal a u := h
theorem wp_calm {P : Program} {c : Code} {Q : Exit → Act → World → Prop} {a : Act} {u : World} (h : c.wp P (noPanic Q) a u) : c.wp P Q a u := Code.wp_mono (fun e a w q => by
  cases e
  case panic => exact q.elim
  all_goals exact q) h
section
variable {w W : World} {l : List Part}
theorem mvDk {f n q a b c d r : Part} (h : Sep w W (f :: n :: q :: a :: b :: c :: d :: r :: l)) : Sep w W (d :: f :: n :: q :: a :: b :: c :: r :: l) := h.perm (List.perm_middle (l₁ := [f, n, q, a, b, c]))
theorem mvRf {f n q a b c d r : Part} (h : Sep w W (d :: f :: n :: q :: a :: b :: c :: r :: l)) : Sep w W (r :: d :: f :: n :: q :: a :: b :: c :: l) := h.perm (List.perm_middle (l₁ := [d, f, n, q, a, b, c]))
theorem mvBack {f n q a b c d r : Part} (h : Sep w W (r :: d :: f :: n :: q :: a :: b :: c :: l)) : Sep w W (n :: q :: a :: b :: c :: d :: r :: f :: l) :=
  h.perm (List.Perm.append_right l ((List.perm_append_comm (l₁ := [r, d, f]) (l₂ := [n, q, a, b, c])).trans (List.Perm.append_left _ (List.Perm.swap d r [f]))))
theorem mvSix {n q a b c : Part} (h : Sep w W (n :: q :: a :: b :: c :: l)) : Sep w W (b :: n :: q :: a :: c :: l) := h.perm (List.perm_middle (l₁ := [n, q, a]))
theorem mvThird {d r f : Part} (h : Sep w W (d :: r :: f :: l)) : Sep w W (f :: d :: r :: l) := h.perm (List.perm_middle (l₁ := [d, r]))
theorem walk_end {w0 V2 Z : World} {hn q h7 B6 B5 D D2 : Nat} {n s : Int} {vq v1 : Value} {L : List (Int × Int)} {d r : Part} (h : Sep w0 V2 (wkL hn n q vq h7 v1 B6 B5 s L (d :: r :: dfP D :: l))) (hm : V2.heap[D2]? = some (.deferred (some []))) (hD : Z.heap.size ≤ D2)
    (hlt : ∀ pp ∈ wkL hn n q vq h7 v1 B6 B5 s L (d :: r :: dfP D :: l), ∀ k, pp.own k → k < Z.heap.size) :
    (V2.setCell ⟨B6, 0, none⟩ (.bool true)).heap[D2]? = some (.deferred (some [])) ∧ ((V2.setCell ⟨B6, 0, none⟩ (.bool true)).putObj D2 (.deferred none)).heap[D]? = some (.deferred (some [])) ∧
    (((V2.setCell ⟨B6, 0, none⟩ (.bool true)).putObj D2 (.deferred none)).putObj D (.deferred none)).cell? ⟨B6, 0, none⟩ = some (.bool true) ∧ Sep w0 (((V2.setCell ⟨B6, 0, none⟩ (.bool true)).putObj D2 (.deferred none)).putObj D (.deferred none)) (d :: r :: l) := by
  have hB6 : B6 < Z.heap.size := hlt (bxP B6 #[.bool false] 4) (by simp [wkL]) B6 rfl
  have hDz : D < Z.heap.size := hlt (dfP D) (by simp [wkL]) D rfl
  have g1 := Sep.setBox (mvSix h) 0 (.bool true)
  have g2 := mvThird g1.drop.drop.drop.drop.drop
  have x1 : (V2.setCell ⟨B6, 0, none⟩ (.bool true)).heap[D2]? = some (.deferred (some [])) := (heap_setCell_other _ _ _ _ (show D2 ≠ B6 by omega)).trans hm
  have hw0 := h.lt (dfP D) (by simp [wkL]) D rfl
  have hz : ∀ pp ∈ dfP D :: d :: r :: l, ∀ k, pp.own k → k < Z.heap.size := fun pp hp k hk => hlt pp (by
    simp only [wkL, List.mem_cons] at hp ⊢
    rcases hp with rfl | rfl | rfl | hp
    · exact .inr (.inr (.inr (.inr (.inr (.inr (.inr (.inl rfl)))))))
    · exact .inr (.inr (.inr (.inr (.inr (.inl rfl)))))
    · exact .inr (.inr (.inr (.inr (.inr (.inr (.inl rfl))))))
    · exact .inr (.inr (.inr (.inr (.inr (.inr (.inr (.inr hp)))))))) k hk
  have g3 := Sep.kept g2 (grownBy_putObj' _ D2 (.deferred none)) fun r' e => by
    injection e with e
    subst e
    exact ⟨by omega, fun pp hp hk => by have := hz pp hp _ hk; omega⟩
  have x2 : ((V2.setCell ⟨B6, 0, none⟩ (.bool true)).putObj D2 (.deferred none)).heap[D]? = some (.deferred (some [])) := g3.head
  have g4 := Sep.kept g3.drop (grownBy_putObj' _ D (.deferred none)) fun r' e => by
    injection e with e
    subst e
    exact ⟨hw0.1, fun pp hp => Sep.away g3 hp rfl⟩
  refine ⟨x1, x2, ?_, g4⟩
  have hb : B6 ≠ D := fun e => by
    have := Sep.away (mvSix h) (q := dfP D) (by simp) (k := B6) rfl
    exact this e
  have y1 : (((V2.setCell ⟨B6, 0, none⟩ (.bool true)).putObj D2 (.deferred none)).putObj D (.deferred none)).heap[B6]? = some (.cells #[.bool true] 4) := by
    rw [World.putObj_heap_other (by omega), World.putObj_heap_other (by omega)]
    exact g1.head
  exact Joins.cell_of_block y1 0
end
theorem cl_list {W : World} {e n ac : Nat} {ap : Option Addr} {L : List (Int × Int)} (h : W.ownsRow 0 e 2 (.slice ap n ac) L.length (L.flatMap pc2)) : ∀ i x, L[i]? = some x → ∃ b, ap = some ⟨b, 0, none⟩ ∧ W.cell? ⟨b, i * 2, none⟩ = some (.int .i64 x.1) ∧ W.cell? ⟨b, i * 2 + 1, none⟩ = some (.int .i64 x.2) := fun i x hx => by
  rcases own_form h with ⟨_, h0⟩ | ⟨b, c, q, hlt⟩
  · have := (List.getElem?_eq_some_iff.1 hx).1
    omega
  · injection q with q1 q2 q3
    subst q1 q2 q3
    exact ⟨b, rfl, own_get pc2_len h hx 0 _ rfl, own_get pc2_len h hx 1 _ rfl⟩
theorem slice_len {w : World} {B e sz n : Nat} {v : Value} {xs : List Value} (h : w.ownsRow B e sz v n xs) : ∃ a c, v = .slice a n c := by
  rcases own_form h with ⟨rfl, rfl⟩ | ⟨_, _, rfl, _⟩ <;> exact ⟨_, _, rfl⟩
theorem pre_at {pre L : List (Int × Int)} {x z : Int × Int} (h : pre ++ [x] <+: L) (hz : L[pre.length]? = some z) : x = z := by
  obtain ⟨r, rfl⟩ := h
  simpa using hz
theorem kp_cell {V : World} {q hn : Nat} {p : Option Addr} (h : q ≠ hn ∧ ∀ g, p = some ⟨g, 0, none⟩ → g ≠ hn) (v : Value) : KpQ q p V (V.setCell ⟨hn, 0, none⟩ v) := ⟨heap_setCell_other _ _ _ _ h.1, fun g e => heap_setCell_other _ _ _ _ (h.2 g e)⟩
theorem ne_of_sep {w W : World} {hn q N cap h7 B6 B5 : Nat} {n s : Int} {p : Option Addr} {v1 : Value} {L : List (Int × Int)} {l : List Part} (h : Sep w W (wkL hn n q (.slice p N cap) h7 v1 B6 B5 s L l)) : q ≠ hn ∧ ∀ g, p = some ⟨g, 0, none⟩ → g ≠ hn := by
  have ha := Sep.away (p := bxP hn #[.int .i64 n] 3) (q := clP q (.slice p N cap) 59 63 L) h (by simp) (k := hn) rfl
  exact ⟨fun e => ha (.inl e.symm), fun g e e2 => ha (.inr (by rw [e, ← e2]; rfl))⟩
theorem wkL_lt {w W : World} {hn q h7 B6 B5 : Nat} {n0 s : Int} {vq v1 : Value} {L : List (Int × Int)} {l : List Part} (h : Sep w W (wkL hn n0 q vq h7 v1 B6 B5 s L l)) (n : Int) : ∀ r ∈ wkL hn n q vq h7 v1 B6 B5 s L l, ∀ k, r.own k → k < W.heap.size := fun r hr k hk => by
  rcases List.mem_cons.1 hr with rfl | hr
  · exact (h.headLt (k := k) hk).2
  · exact (h.lt r (List.mem_cons_of_mem _ hr) k hk).2
set_option maxRecDepth 100000 in
set_option maxHeartbeats 8000000 in
theorem walk_in {w0 w : World} {g b h : Nat} {m : Int} {L : List (Int × Int)} {vr : Value} {c : Nat} {l : List Part} (HS0 : Sep w0 w (dkP g b m L :: rfP h m vr L :: l)) (ho : Dok m L c) (hc : c < 999999) (s : Nat) (h100 : s ≤ 100) :
    CallsIn Fence.wide 4 Try.prog 11 #[.pointer (some ⟨g, 0, none⟩), .pointer (some ⟨h, 0, none⟩), .int .i64 s] w fun e w' => e = .returned (.bool true) ∧ ∃ v', Sep w0 w' (dkP g b m (holdL m L (s + 1)) :: rfP h m v' (holdL m L (s + 1)) :: l) := by
  have heq := eqlSeq
  have HO : Hid (Dok m L c) := ho
  obtain ⟨N, hN⟩ : ∃ N, L.length = N := ⟨_, rfl⟩
  have HN : Hid (L.length = N) := hN
  have hN1 : N < 999999 := by have := ho.lec; omega
  have HS : Hid (Sep w0 w (dkP g b m L :: rfP h m vr L :: l)) := HS0
  refine callsIn_of_wp_marks Try.func11 rfl trivial ?_ rfl
  simp only [Try.ntmps11, List.size_toArray, List.length_cons, List.length_nil, Nat.reduceAdd, Nat.reduceSub, Array.replicate_succ, Array.replicate_zero, List.push_toArray, List.append_toArray, List.nil_append, List.cons_append]
  clear HS0 ho hN
  gi_wp2_with (first | (gi_at_call 25; fail))
  have S1 := (HS.out.box #[.int .i64 (s : Int)] 3).box #[.bool false] 4
  rw [World.size_alloc] at S1
  generalize ((w.alloc (.cells #[.int .i64 (s : Int)] 3)).alloc (.cells #[.bool false] 4)) = X0 at *
  generalize hB5 : w.heap.size = B5 at *
  have HS1 : Hid (Sep w0 X0 (bxP (B5 + 1) #[.bool false] 4 :: bxP B5 #[.int .i64 (s : Int)] 3 :: dkP g b m L :: rfP h m vr L :: l)) := S1
  clear S1 HS
  refine (callsIn_wide.2 (rall_ok (HS1.out.sayOf (q := rfP h m vr L) (by simp)) (by rw [HN.out]; omega))).mono ?_
  rintro e W1 ⟨v1, rfl, ho1, hb1⟩
  obtain ⟨ap, ac, hap⟩ := slice_len ho1
  rw [HN.out] at hap
  subst hap
  gi_wp2_with (first | (gi_at_call 19; fail))
  have S2 : Sep w0 (W1.alloc (.cells #[.slice ap N ac] 52)) (clP W1.heap.size (.slice ap N ac) 52 57 L :: bxP (B5 + 1) #[.bool false] 4 :: bxP B5 #[.int .i64 (s : Int)] 3 :: dkP g b m L :: rfP h m vr L :: l) := by
    refine HS1.out.add (below_next hb1 (below_new _ _)) (clP_good _ _ _ _ _) ⟨heap_alloc_new _ _, World.ownsRow.mono (own_later ho1 (below_new _ _)) (Nat.zero_le _)⟩ ?_
    rintro k (rfl | e)
    · exact ⟨hb1.size, by simp⟩
    · have := ho1.lt k e
      exact ⟨this.1, by rw [World.size_alloc]; omega⟩
  generalize W1.alloc (.cells #[.slice ap N ac] 52) = X1 at *
  generalize hh7 : W1.heap.size = h7 at *
  have HS2 : Hid (Sep w0 X1 (clP h7 (.slice ap N ac) 52 57 L :: bxP (B5 + 1) #[.bool false] 4 :: bxP B5 #[.int .i64 (s : Int)] 3 :: dkP g b m L :: rfP h m vr L :: l)) := S2
  clear S2 hb1 ho1 HS1 hh7
  refine (callsIn_wide.2 (Sep.allD (HS2.out.drop.drop.drop) HO.out (by omega) HS2.out)).mono ?_
  rintro e W2 ⟨q, vq, rfl, s3⟩
  have HS3 : Hid (Sep w0 W2 (clP q vq 59 63 L :: clP h7 (.slice ap N ac) 52 57 L :: bxP (B5 + 1) #[.bool false] 4 :: bxP B5 #[.int .i64 (s : Int)] 3 :: dkP g b m L :: rfP h m vr L :: l)) := s3
  clear s3 HS2
  gi_wp2
  have S4 := HS3.out.box #[.int .i64 0] 3
  generalize W2.alloc (.cells #[.int .i64 0] 3) = X4 at *
  generalize hhn : W2.heap.size = hn at *
  have HS4 : Hid (Sep w0 X4 (wkL hn 0 q vq h7 (.slice ap N ac) (B5 + 1) B5 s L (dkP g b m L :: rfP h m vr L :: l))) := S4
  clear S4 HS3 hhn hB5
  -- FROM HERE
  have hq := HS4.out.sayOf (q := clP q vq 59 63 L) (by simp [wkL])
  obtain ⟨p, cap, rfl, hhe, hpp⟩ := HeldAt.of hq.2
  rw [HN.out] at HS4 hq
  have hql : q < X4.heap.size := (Array.getElem?_eq_some_iff.1 hq.1).1
  have HPP : Hid (∀ g, p = some ⟨g, 0, none⟩ → g < X4.heap.size) := fun g e => (hpp g e).2
  have hst : SeqStopsK Fence.wide 3 Try.prog 28 #[.pointer (some ⟨q, 0, none⟩)] (fun x : Int × Int => #[.int .i64 x.1, .int .i64 x.2]) (KpQ q p) (fun ys => ys = L) (fun pre => pre <+: L) 1000000 X4 := iterD_stops HN.out (by omega) 3 q p cap X4 hql HPP.out (Joins.cell_of_block hq.1 0) hhe
  have HST := (show Hid _ from hst)
  have HNE : Hid (q ≠ hn ∧ ∀ g, p = some ⟨g, 0, none⟩ → g ≠ hn) := ne_of_sep HS4.out
  have HLT : Hid (∀ n, ∀ r ∈ wkL hn n q (.slice p N cap) h7 (.slice ap N ac) (B5 + 1) B5 s L (dkP g b m L :: rfP h m vr L :: l), ∀ k, r.own k → k < X4.heap.size) := fun n r hr k hk => wkL_lt HS4.out n r hr k hk
  have HW0 : Hid (w0.heap.size ≤ X4.heap.size) := HS4.out.below.size
  clear hst hhe hpp hq
  refine wpIn_rangeFunc_ownF rfl (by omega) (gf := 28) rfl trivial (enters_of Try.func28 (by kernel_rfl) rfl) HST.out KpQ.trans (kpQ_b hql HPP.out) (Below.refl _ _) (fun _ => rfl)
    (fun pre V => Sep w0 V (wkL hn (pre.length : Nat) q (.slice p N cap) h7 (.slice ap N ac) (B5 + 1) B5 s L (dkP g b m L :: rfP h m vr L :: l)))
    (fun c pre V => (c = .ret ∧ ¬ pre <+: L) ∨ (c = .exit 0 ∧ ∃ k, Sep w0 V (wkL hn k q (.slice p N cap) h7 (.slice ap N ac) (B5 + 1) B5 s L (dkP g b m L :: rfP h m vr L :: l))))
    (fun pre A B row hs hg hr => Sep.kept hs hg fun r e => ⟨Nat.le_trans HW0.out (hr r e).1, fun pp hp hk => by have := HLT.out _ pp hp r hk; have := (hr r e).1; omega⟩)
    (fun c pre A B row hs hg hr => by
      rcases hs with hs | ⟨e, k, hs⟩
      · exact .inl hs
      · exact .inr ⟨e, k, Sep.kept hs hg fun r e => ⟨Nat.le_trans HW0.out (hr r e).1, fun pp hp hk => by have := HLT.out _ pp hp r hk; have := (hr r e).1; omega⟩⟩)
    HS4.out ?a1 ?assign ?body ?done ?stop
  case assign =>
    intro ll x V K hK
    gi_wp2
    exact hK
  case body =>
    rintro ll pre x V hs hlen
    have c9 : V.cell? ⟨hn, 0, none⟩ = some (.int .i64 (pre.length : Nat)) := Joins.cell_of_block hs.head 0
    have f9 : V.frozen? ⟨hn, 0, none⟩ = false := frozen_row hs.head 0
    have s7 := hs.sayOf (q := clP h7 (.slice ap N ac) 52 57 L) (by simp [wkL])
    have c7 : V.cell? ⟨h7, 0, none⟩ = some (.slice ap N ac) := Joins.cell_of_block s7.1 0
    have s6 := hs.sayOf (q := bxP (B5 + 1) #[.bool false] 4) (by simp [wkL])
    have c6 : V.cell? ⟨B5 + 1, 0, none⟩ = some (.bool false) := Joins.cell_of_block s6 0
    have f6 : V.frozen? ⟨B5 + 1, 0, none⟩ = false := frozen_row s6 0
    have s5 := hs.sayOf (q := bxP B5 #[.int .i64 (s : Int)] 3) (by simp [wkL])
    have c5 : V.cell? ⟨B5, 0, none⟩ = some (.int .i64 (s : Int)) := Joins.cell_of_block s5 0
    have hcl := cl_list s7.2
    have HV : Hid (Sep w0 V (wkL hn (pre.length : Nat) q (.slice p N cap) h7 (.slice ap N ac) (B5 + 1) B5 s L (dkP g b m L :: rfP h m vr L :: l))) := hs
    have HN1 := HN.out
    clear s5 s6 s7 hs
    by_cases hm : ((pre.length : Nat) : Int) = (s : Int)
    · have hm1 : (((pre.length : Nat) : Int) == (s : Int)) = true := by simpa using hm
      have hm2 : (pre.length == s) = true := by simp; omega
      clear hm hcl
      gi_wp2
      exact ⟨KeepsOthers.refl _, .inr ⟨rfl, _, HV.out⟩⟩
    · have hm1 : (((pre.length : Nat) : Int) == (s : Int)) = false := by simpa using hm
      have hm2 : (pre.length == s) = false := by simp; omega
      clear hm
      by_cases hl : pre.length < N
      · have hz : L[pre.length]? = some L[pre.length] := List.getElem?_eq_getElem (by omega)
        have HPre : Hid (pre ++ [x] <+: L → x = L[pre.length]) := fun hp => pre_at hp hz
        obtain ⟨bb, hbb, a0, a1⟩ := hcl _ _ hz
        rw [hbb] at c7
        clear hbb
        have hl2 : decide (((N : Nat) : Int) ≤ ((pre.length : Nat) : Int)) = false := decide_eq_false (by omega)
        have hl3 : decide (N ≤ pre.length) = false := decide_eq_false (by omega)
        generalize L[pre.length] = z at *
        clear hz hcl HN1
        by_cases h1 : x.1 = z.1
        · have h1b : (x.1 != z.1) = false := by simp [h1]
          by_cases h2 : x.2 = z.2
          · have h2b : (x.2 != z.2) = false := by simp [h2]
            have HI : Hid (Sep w0 (V.setCell ⟨hn, 0, none⟩ (.int .i64 ((pre.length : Nat) + 1))) (wkL hn ((pre ++ [x]).length : Nat) q (.slice p N cap) h7 (.slice ap N ac) (B5 + 1) B5 s L (dkP g b m L :: rfP h m vr L :: l))) := by
              have h3 := Sep.setBox (show Sep w0 V (bxP hn #[.int .i64 (pre.length : Nat)] 3 :: _) from HV.out) 0 (.int .i64 ((pre.length : Nat) + 1))
              rw [List.length_append, List.length_singleton, Int.natCast_add]
              exact h3
            have HK : Hid (KpQ q p V (V.setCell ⟨hn, 0, none⟩ (.int .i64 ((pre.length : Nat) + 1)))) := kp_cell (HNE.out) _
            clear h1 h2 HPre
            gi_wp2
            exact ⟨KeepsOthers.setCell _ _ _, HK.out, HI.out⟩
          · have h2b : (x.2 != z.2) = true := by simp [h2]
            have HQ : Hid (¬ pre ++ [x] <+: L) := fun hp => h2 (by rw [HPre.out hp])
            clear h1 h2 HPre
            gi_wp2
            exact ⟨KeepsOthers.setCell _ _ _, .inl ⟨rfl, HQ.out⟩⟩
        · have h1b : (x.1 != z.1) = true := by simp [h1]
          have HQ : Hid (¬ pre ++ [x] <+: L) := fun hp => h1 (by rw [HPre.out hp])
          clear h1 HPre
          gi_wp2
          exact ⟨KeepsOthers.setCell _ _ _, .inl ⟨rfl, HQ.out⟩⟩
      · have hl2 : decide (((N : Nat) : Int) ≤ ((pre.length : Nat) : Int)) = true := decide_eq_true (by omega)
        have hl3 : decide (N ≤ pre.length) = true := decide_eq_true (by omega)
        have HQ : Hid (¬ pre ++ [x] <+: L) := fun hp => by
          have := hp.length_le
          rw [List.length_append, List.length_singleton] at this
          omega
        clear hcl HN1
        gi_wp2
        exact ⟨KeepsOthers.setCell _ _ _, .inl ⟨rfl, HQ.out⟩⟩
  case done =>
    rintro D ys V hD _ hs hmk
    have s1 := Sep.withMark hs (fun pp hp k hk => Nat.lt_of_lt_of_le (HLT.out _ pp hp k hk) hD) hmk (Nat.le_trans HW0.out hD)
    have s2 := mvDk (Sep.later s1 (belowN (Below.refl _ _) 1))
    have HS6 : Hid (Sep w0 V.drew (dkP g b m L :: _)) := s2
    have HDD : Hid (X4.heap.size ≤ D) := hD
    have hws : IntKind.i64.wrap ((s : Int) + 1) = (s : Int) + 1 := by rw [IntKind.wrap_i64]; omega
    have hwf : (Lit.int .i64 ((s : Int) + 1)).wf = true := wf64 (by omega) (by omega)
    have c5 : V.drew.cell? ⟨B5, 0, none⟩ = some (.int .i64 (s : Int)) := Joins.cell_of_block (HS6.out.sayOf (q := bxP B5 #[.int .i64 (s : Int)] 3) (by simp)) 0
    clear s1 s2 hs hmk hD
    gi_wp2
    refine wpIn_wide.2 ?_
    refine wp_calm ?_
    refine wp_region_ord (S := fun u => u.cell? ⟨B5, 0, none⟩ = some (.int .i64 (s : Int))) [(0, true), (1, true), (2, true), (4, true), (5, true), (6, true), (3, false), (7, false), (8, true)] (by kernel_rfl) rfl (by kernel_rfl) (fun _ _ _ _ _ h => h) c5 ?_
    simp only [inOrd, List.getElem?_cons_zero, List.getElem?_cons_succ]
    refine wpOrd_yield (v := .pointer (some ⟨g, 0, none⟩)) rfl (fun u _ => exec_mv rfl rfl) ?_
    simp only [Act.put, List.setIfInBounds_toArray, List.set_cons_succ, List.set_cons_zero]
    refine wpOrd_yield (v := .int .i64 (s : Int)) rfl (fun u hu => by have := hu; go_simp) ?_
    simp only [Act.put, List.setIfInBounds_toArray, List.set_cons_succ, List.set_cons_zero]
    refine wpOrd_yield (v := .int .i64 ((s : Int) + 1)) rfl (fun u _ => by have := hws; go_simp) ?_
    simp only [Act.put, List.setIfInBounds_toArray, List.set_cons_succ, List.set_cons_zero]
    refine wpOrd_yield (v := .pointer (some ⟨h, 0, none⟩)) rfl (fun u _ => exec_mv rfl rfl) ?_
    simp only [Act.put, List.setIfInBounds_toArray, List.set_cons_succ, List.set_cons_zero]
    refine wpOrd_yield (v := .int .i64 (s : Int)) rfl (fun u hu => by have := hu; go_simp) ?_
    simp only [Act.put, List.setIfInBounds_toArray, List.set_cons_succ, List.set_cons_zero]
    refine wpOrd_yield (v := .int .i64 ((s : Int) + 1)) rfl (fun u _ => by have := hws; go_simp) ?_
    simp only [Act.put, List.setIfInBounds_toArray, List.set_cons_succ, List.set_cons_zero]
    refine wpOrd_call rfl 13 _ _ rfl Try.call13 [.pointer (some ⟨g, 0, none⟩), .int .i64 ((s : Int) + 1)] rfl ?_
    refine (HS6.out.hold HO.out (by omega) ((s : Int) + 1) hwf).mono ?_
    rintro e Y1 ⟨rfl, y1⟩
    have y2 := mvRf y1
    refine ⟨_, rfl, Joins.cell_of_block (y2.sayOf (q := bxP B5 #[.int .i64 (s : Int)] 3) (by simp)) 0, ?_⟩
    simp only [Act.put, List.setIfInBounds_toArray, List.set_cons_succ, List.set_cons_zero]
    refine wpOrd_call rfl 20 _ _ rfl Try.call20 [.pointer (some ⟨h, 0, none⟩), .int .i64 ((s : Int) + 1)] rfl ?_
    refine (y2.rhold HO.out (by omega) ((s : Int) + 1)).mono ?_
    rintro e Y2 ⟨rfl, v2, y3⟩
    have y4 := mvBack y3
    refine ⟨_, rfl, Joins.cell_of_block (y4.sayOf (q := bxP B5 #[.int .i64 (s : Int)] 3) (by simp)) 0, ?_⟩
    simp only [Act.put, List.setIfInBounds_toArray, List.set_cons_succ, List.set_cons_zero]
    have hee : (holdE m L ((s : Int) + 1) != holdE m L ((s : Int) + 1)) = false := by simp
    have HG2 : Hid (holdL m L ((s : Int) + 1) = holdL m L ((s : Int) + 1)) := rfl
    generalize holdE m L ((s : Int) + 1) = hE at *
    refine wpOrd_yield (v := .bool false) rfl (fun u _ => by have := hee; go_simp) ?_
    simp only [Act.put, List.setIfInBounds_toArray, List.set_cons_succ, List.set_cons_zero]
    refine wpOrd_nil ?_
    refine noPanic_normal ?_
    obtain ⟨L2, hL2⟩ : ∃ L2, holdL m L ((s : Int) + 1) = L2 := ⟨_, rfl⟩
    have HL2 : Hid (holdL m L ((s : Int) + 1) = L2) := hL2
    rw [hL2] at y4
    have HS7 : Hid (Sep w0 Y2 (bxP hn _ 3 :: _)) := y4
    have c9 : Y2.cell? ⟨hn, 0, none⟩ = some (.int .i64 _) := Joins.cell_of_block HS7.out.head 0
    have f9 : Y2.frozen? ⟨hn, 0, none⟩ = false := frozen_row HS7.out.head 0
    have HS8 : Hid (Sep w0 (Y2.setCell ⟨hn, 0, none⟩ (.int .i64 0)) (wkL hn 0 q (.slice p N cap) h7 (.slice ap N ac) (B5 + 1) B5 s L (dkP g b m L2 :: rfP h m v2 L2 :: dfP D :: l))) := Sep.setBox HS7.out 0 (.int .i64 0)
    clear y1 y2 y3 y4 hL2 HS6 HG2 HS7 c5
    gi_wp2
    generalize Y2.setCell ⟨hn, 0, none⟩ (.int .i64 0) = Z at *
    clear c9 f9
    have hq := HS8.out.sayOf (q := clP q (.slice p N cap) 59 63 L) (by simp [wkL])
    have hql2 : q < Z.heap.size := (Array.getElem?_eq_some_iff.1 hq.1).1
    have HPP2 : Hid (∀ g, p = some ⟨g, 0, none⟩ → g < Z.heap.size) := fun g e => (hq.2.lt g (by rw [e]; rfl)).2
    have hhe : HeldAt Z p L := fun i x hx => cl_list hq.2 i x hx
    have hst : SeqStopsK Fence.wide 3 Try.prog 28 #[.pointer (some ⟨q, 0, none⟩)] (fun x : Int × Int => #[.int .i64 x.1, .int .i64 x.2]) (KpQ q p) (fun ys => ys = L) (fun pre => pre <+: L) 1000000 Z := iterD_stops HN.out (by omega) 3 q p cap Z hql2 HPP2.out (Joins.cell_of_block hq.1 0) hhe
    have HST2 := (show Hid _ from hst)
    have HLT2 : Hid (∀ n, ∀ r ∈ wkL hn n q (.slice p N cap) h7 (.slice ap N ac) (B5 + 1) B5 s L (dkP g b m L2 :: rfP h m v2 L2 :: dfP D :: l), ∀ k, r.own k → k < Z.heap.size) := fun n r hr k hk => wkL_lt HS8.out n r hr k hk
    have HWZ : Hid (w0.heap.size ≤ Z.heap.size) := HS8.out.below.size
    clear hst hhe hq
    refine wpIn_rangeFunc_ownF rfl (by omega) (gf := 28) rfl trivial (enters_of Try.func28 (by kernel_rfl) rfl) HST2.out KpQ.trans (kpQ_b hql2 HPP2.out) (Below.refl _ _) (fun _ => rfl)
      (fun pre V => Sep w0 V (wkL hn (pre.length : Nat) q (.slice p N cap) h7 (.slice ap N ac) (B5 + 1) B5 s L (dkP g b m L2 :: rfP h m v2 L2 :: dfP D :: l)))
      (fun c pre V => c = .ret ∧ ¬ pre <+: L)
      (fun pre A B row hs hg hr => Sep.kept hs hg fun r e => ⟨Nat.le_trans HWZ.out (hr r e).1, fun pp hp hk => by have := HLT2.out _ pp hp r hk; have := (hr r e).1; omega⟩)
      (fun c pre A B row hs hg hr => hs)
      HS8.out ?a1y ?assigny ?bodyy ?doney ?stopy
    case assigny =>
      intro ll x V K hK
      gi_wp2
      exact hK
    case bodyy =>
      rintro ll pre x V hs hlen
      have c9 : V.cell? ⟨hn, 0, none⟩ = some (.int .i64 (pre.length : Nat)) := Joins.cell_of_block hs.head 0
      have f9 : V.frozen? ⟨hn, 0, none⟩ = false := frozen_row hs.head 0
      have s7 := hs.sayOf (q := clP h7 (.slice ap N ac) 52 57 L) (by simp [wkL])
      have c7 : V.cell? ⟨h7, 0, none⟩ = some (.slice ap N ac) := Joins.cell_of_block s7.1 0
      have s6 := hs.sayOf (q := bxP (B5 + 1) #[.bool false] 4) (by simp [wkL])
      have c6 : V.cell? ⟨B5 + 1, 0, none⟩ = some (.bool false) := Joins.cell_of_block s6 0
      have f6 : V.frozen? ⟨B5 + 1, 0, none⟩ = false := frozen_row s6 0
      have s5 := hs.sayOf (q := bxP B5 #[.int .i64 (s : Int)] 3) (by simp [wkL])
      have c5 : V.cell? ⟨B5, 0, none⟩ = some (.int .i64 (s : Int)) := Joins.cell_of_block s5 0
      have hcl := cl_list s7.2
      have HV : Hid (Sep w0 V (wkL hn (pre.length : Nat) q (.slice p N cap) h7 (.slice ap N ac) (B5 + 1) B5 s L (dkP g b m L2 :: rfP h m v2 L2 :: dfP D :: l))) := hs
      have HN1 := HN.out
      clear s5 s6 s7 hs
      by_cases hl : pre.length < N
      · have hz : L[pre.length]? = some L[pre.length] := List.getElem?_eq_getElem (by omega)
        have HPre : Hid (pre ++ [x] <+: L → x = L[pre.length]) := fun hp => pre_at hp hz
        obtain ⟨bb, hbb, a0, a1⟩ := hcl _ _ hz
        rw [hbb] at c7
        clear hbb
        have hl2 : decide (((N : Nat) : Int) ≤ ((pre.length : Nat) : Int)) = false := decide_eq_false (by omega)
        have hl3 : decide (N ≤ pre.length) = false := decide_eq_false (by omega)
        generalize L[pre.length] = z at *
        clear hz hcl HN1
        by_cases h1 : x.1 = z.1
        · have h1b : (x.1 != z.1) = false := by simp [h1]
          by_cases h2 : x.2 = z.2
          · have h2b : (x.2 != z.2) = false := by simp [h2]
            have HI : Hid (Sep w0 (V.setCell ⟨hn, 0, none⟩ (.int .i64 ((pre.length : Nat) + 1))) (wkL hn ((pre ++ [x]).length : Nat) q (.slice p N cap) h7 (.slice ap N ac) (B5 + 1) B5 s L (dkP g b m L2 :: rfP h m v2 L2 :: dfP D :: l))) := by
              have h3 := Sep.setBox (show Sep w0 V (bxP hn #[.int .i64 (pre.length : Nat)] 3 :: _) from HV.out) 0 (.int .i64 ((pre.length : Nat) + 1))
              rw [List.length_append, List.length_singleton, Int.natCast_add]
              exact h3
            have HK : Hid (KpQ q p V (V.setCell ⟨hn, 0, none⟩ (.int .i64 ((pre.length : Nat) + 1)))) := kp_cell (HNE.out) _
            clear h1 h2 HPre
            gi_wp2
            exact ⟨KeepsOthers.setCell _ _ _, HK.out, HI.out⟩
          · have h2b : (x.2 != z.2) = true := by simp [h2]
            have HQ : Hid (¬ pre ++ [x] <+: L) := fun hp => h2 (by rw [HPre.out hp])
            clear h1 h2 HPre
            gi_wp2
            exact ⟨KeepsOthers.setCell _ _ _, rfl, HQ.out⟩
        · have h1b : (x.1 != z.1) = true := by simp [h1]
          have HQ : Hid (¬ pre ++ [x] <+: L) := fun hp => h1 (by rw [HPre.out hp])
          clear h1 HPre
          gi_wp2
          exact ⟨KeepsOthers.setCell _ _ _, rfl, HQ.out⟩
      · have hl2 : decide (((N : Nat) : Int) ≤ ((pre.length : Nat) : Int)) = true := decide_eq_true (by omega)
        have hl3 : decide (N ≤ pre.length) = true := decide_eq_true (by omega)
        have HQ : Hid (¬ pre ++ [x] <+: L) := fun hp => by
          have := hp.length_le
          rw [List.length_append, List.length_singleton] at this
          omega
        clear hcl HN1
        gi_wp2
        exact ⟨KeepsOthers.setCell _ _ _, rfl, HQ.out⟩
    case doney =>
      rintro D2 ys V2 hD2 hys hs2 hmk2
      have hnn : (ys.length : Int) = (N : Int) := by rw [hys, HN.out]
      rw [hnn] at hs2
      have c9 : V2.cell? ⟨hn, 0, none⟩ = some (.int .i64 (N : Int)) := Joins.cell_of_block (show V2.heap[hn]? = _ from hs2.head) 0
      have s7 := hs2.sayOf (q := clP h7 (.slice ap N ac) 52 57 L) (by simp [wkL])
      have c7 : V2.cell? ⟨h7, 0, none⟩ = some (.slice ap N ac) := Joins.cell_of_block s7.1 0
      have s6 := hs2.sayOf (q := bxP (B5 + 1) #[.bool false] 4) (by simp [wkL])
      have c6 : V2.cell? ⟨B5 + 1, 0, none⟩ = some (.bool false) := Joins.cell_of_block s6 0
      have f6 : V2.frozen? ⟨B5 + 1, 0, none⟩ = false := frozen_row s6 0
      have HS9 : Hid (Sep w0 V2 (wkL hn N q (.slice p N cap) h7 (.slice ap N ac) (B5 + 1) B5 s L (dkP g b m L2 :: rfP h m v2 L2 :: dfP D :: l))) := hs2
      have HM2 : Hid (V2.heap[D2]? = some (.deferred (some []))) := hmk2
      have HD2 : Hid (Z.heap.size ≤ D2) := hD2
      have eNN : ((N : Int) == (N : Int)) = true := by simp
      clear s6 s7 hs2 hmk2 hD2 hys hnn
      gi_wp2
      obtain ⟨x1, x2, x3, x4⟩ := walk_end HS9.out HM2.out HD2.out (fun pp hp k hk => HLT2.out _ pp hp k hk)
      refine ⟨by simp, .inl ⟨_, _, rfl, run_takeDeferred x1, ?_⟩⟩
      refine ⟨by simp, .inl ⟨_, _, rfl, run_takeDeferred x2, ?_⟩⟩
      refine ⟨.bool true, ?_, rfl, v2, ?_⟩
      · have hl : (loadVar 4 ⟨B5 + 1, 0, none⟩).run Try.prog (((V2.setCell ⟨B5 + 1, 0, none⟩ (.bool true)).putObj D2 (.deferred none)).putObj D (.deferred none)) = .ok (.bool true) (((V2.setCell ⟨B5 + 1, 0, none⟩ (.bool true)).putObj D2 (.deferred none)).putObj D (.deferred none)) := by simp [loadVar, Try.isAgg4, x3]
        simp [results, asAddr, hl]
      · rw [HL2.out]
        exact x4
    case stopy =>
      rintro D2 cc pre V2 hD2 hpre hx hmk2
      exact absurd hpre hx.2
  case stop =>
    rintro D cc pre V hD hpre hx hmk
    rcases hx with ⟨_, hx⟩ | ⟨rfl, kk, hs⟩
    · exact absurd hpre hx
    · gi_wp2
      have s1 := Sep.withMark hs (fun pp hp k hk => Nat.lt_of_lt_of_le (HLT.out _ pp hp k hk) hD) hmk (Nat.le_trans HW0.out hD)
      have s2 := mvDk (Sep.later s1 (belowN (Below.refl _ _) 1))
      have HS6 : Hid (Sep w0 V.drew (dkP g b m L :: _)) := s2
      have HDD : Hid (X4.heap.size ≤ D) := hD
      have hws : IntKind.i64.wrap ((s : Int) + 1) = (s : Int) + 1 := by rw [IntKind.wrap_i64]; omega
      have hwf : (Lit.int .i64 ((s : Int) + 1)).wf = true := wf64 (by omega) (by omega)
      have c5 : V.drew.cell? ⟨B5, 0, none⟩ = some (.int .i64 (s : Int)) := Joins.cell_of_block (HS6.out.sayOf (q := bxP B5 #[.int .i64 (s : Int)] 3) (by simp)) 0
      clear s1 s2 hs hmk hD
      gi_wp2
      refine wpIn_wide.2 ?_
      refine wp_calm ?_
      refine wp_region_ord (S := fun u => u.cell? ⟨B5, 0, none⟩ = some (.int .i64 (s : Int))) [(0, true), (1, true), (2, true), (4, true), (5, true), (6, true), (3, false), (7, false), (8, true)] (by kernel_rfl) rfl (by kernel_rfl) (fun _ _ _ _ _ h => h) c5 ?_
      simp only [inOrd, List.getElem?_cons_zero, List.getElem?_cons_succ]
      refine wpOrd_yield (v := .pointer (some ⟨g, 0, none⟩)) rfl (fun u _ => exec_mv rfl rfl) ?_
      simp only [Act.put, List.setIfInBounds_toArray, List.set_cons_succ, List.set_cons_zero]
      refine wpOrd_yield (v := .int .i64 (s : Int)) rfl (fun u hu => by have := hu; go_simp) ?_
      simp only [Act.put, List.setIfInBounds_toArray, List.set_cons_succ, List.set_cons_zero]
      refine wpOrd_yield (v := .int .i64 ((s : Int) + 1)) rfl (fun u _ => by have := hws; go_simp) ?_
      simp only [Act.put, List.setIfInBounds_toArray, List.set_cons_succ, List.set_cons_zero]
      refine wpOrd_yield (v := .pointer (some ⟨h, 0, none⟩)) rfl (fun u _ => exec_mv rfl rfl) ?_
      simp only [Act.put, List.setIfInBounds_toArray, List.set_cons_succ, List.set_cons_zero]
      refine wpOrd_yield (v := .int .i64 (s : Int)) rfl (fun u hu => by have := hu; go_simp) ?_
      simp only [Act.put, List.setIfInBounds_toArray, List.set_cons_succ, List.set_cons_zero]
      refine wpOrd_yield (v := .int .i64 ((s : Int) + 1)) rfl (fun u _ => by have := hws; go_simp) ?_
      simp only [Act.put, List.setIfInBounds_toArray, List.set_cons_succ, List.set_cons_zero]
      refine wpOrd_call rfl 13 _ _ rfl Try.call13 [.pointer (some ⟨g, 0, none⟩), .int .i64 ((s : Int) + 1)] rfl ?_
      refine (HS6.out.hold HO.out (by omega) ((s : Int) + 1) hwf).mono ?_
      rintro e Y1 ⟨rfl, y1⟩
      have y2 := mvRf y1
      refine ⟨_, rfl, Joins.cell_of_block (y2.sayOf (q := bxP B5 #[.int .i64 (s : Int)] 3) (by simp)) 0, ?_⟩
      simp only [Act.put, List.setIfInBounds_toArray, List.set_cons_succ, List.set_cons_zero]
      refine wpOrd_call rfl 20 _ _ rfl Try.call20 [.pointer (some ⟨h, 0, none⟩), .int .i64 ((s : Int) + 1)] rfl ?_
      refine (y2.rhold HO.out (by omega) ((s : Int) + 1)).mono ?_
      rintro e Y2 ⟨rfl, v2, y3⟩
      have y4 := mvBack y3
      refine ⟨_, rfl, Joins.cell_of_block (y4.sayOf (q := bxP B5 #[.int .i64 (s : Int)] 3) (by simp)) 0, ?_⟩
      simp only [Act.put, List.setIfInBounds_toArray, List.set_cons_succ, List.set_cons_zero]
      have hee : (holdE m L ((s : Int) + 1) != holdE m L ((s : Int) + 1)) = false := by simp
      have HG2 : Hid (holdL m L ((s : Int) + 1) = holdL m L ((s : Int) + 1)) := rfl
      generalize holdE m L ((s : Int) + 1) = hE at *
      refine wpOrd_yield (v := .bool false) rfl (fun u _ => by have := hee; go_simp) ?_
      simp only [Act.put, List.setIfInBounds_toArray, List.set_cons_succ, List.set_cons_zero]
      refine wpOrd_nil ?_
      refine noPanic_normal ?_
      obtain ⟨L2, hL2⟩ : ∃ L2, holdL m L ((s : Int) + 1) = L2 := ⟨_, rfl⟩
      have HL2 : Hid (holdL m L ((s : Int) + 1) = L2) := hL2
      rw [hL2] at y4
      have HS7 : Hid (Sep w0 Y2 (bxP hn _ 3 :: _)) := y4
      have c9 : Y2.cell? ⟨hn, 0, none⟩ = some (.int .i64 _) := Joins.cell_of_block HS7.out.head 0
      have f9 : Y2.frozen? ⟨hn, 0, none⟩ = false := frozen_row HS7.out.head 0
      have HS8 : Hid (Sep w0 (Y2.setCell ⟨hn, 0, none⟩ (.int .i64 0)) (wkL hn 0 q (.slice p N cap) h7 (.slice ap N ac) (B5 + 1) B5 s L (dkP g b m L2 :: rfP h m v2 L2 :: dfP D :: l))) := Sep.setBox HS7.out 0 (.int .i64 0)
      clear y1 y2 y3 y4 hL2 HS6 HG2 HS7 c5
      gi_wp2
      generalize Y2.setCell ⟨hn, 0, none⟩ (.int .i64 0) = Z at *
      clear c9 f9
      have hq := HS8.out.sayOf (q := clP q (.slice p N cap) 59 63 L) (by simp [wkL])
      have hql2 : q < Z.heap.size := (Array.getElem?_eq_some_iff.1 hq.1).1
      have HPP2 : Hid (∀ g, p = some ⟨g, 0, none⟩ → g < Z.heap.size) := fun g e => (hq.2.lt g (by rw [e]; rfl)).2
      have hhe : HeldAt Z p L := fun i x hx => cl_list hq.2 i x hx
      have hst : SeqStopsK Fence.wide 3 Try.prog 28 #[.pointer (some ⟨q, 0, none⟩)] (fun x : Int × Int => #[.int .i64 x.1, .int .i64 x.2]) (KpQ q p) (fun ys => ys = L) (fun pre => pre <+: L) 1000000 Z := iterD_stops HN.out (by omega) 3 q p cap Z hql2 HPP2.out (Joins.cell_of_block hq.1 0) hhe
      have HST2 := (show Hid _ from hst)
      have HLT2 : Hid (∀ n, ∀ r ∈ wkL hn n q (.slice p N cap) h7 (.slice ap N ac) (B5 + 1) B5 s L (dkP g b m L2 :: rfP h m v2 L2 :: dfP D :: l), ∀ k, r.own k → k < Z.heap.size) := fun n r hr k hk => wkL_lt HS8.out n r hr k hk
      have HWZ : Hid (w0.heap.size ≤ Z.heap.size) := HS8.out.below.size
      clear hst hhe hq
      refine wpIn_rangeFunc_ownF rfl (by omega) (gf := 28) rfl trivial (enters_of Try.func28 (by kernel_rfl) rfl) HST2.out KpQ.trans (kpQ_b hql2 HPP2.out) (Below.refl _ _) (fun _ => rfl)
        (fun pre V => Sep w0 V (wkL hn (pre.length : Nat) q (.slice p N cap) h7 (.slice ap N ac) (B5 + 1) B5 s L (dkP g b m L2 :: rfP h m v2 L2 :: dfP D :: l)))
        (fun c pre V => c = .ret ∧ ¬ pre <+: L)
        (fun pre A B row hs hg hr => Sep.kept hs hg fun r e => ⟨Nat.le_trans HWZ.out (hr r e).1, fun pp hp hk => by have := HLT2.out _ pp hp r hk; have := (hr r e).1; omega⟩)
        (fun c pre A B row hs hg hr => hs)
        HS8.out ?a1z ?assignz ?bodyz ?donez ?stopz
      case assignz =>
        intro ll x V K hK
        gi_wp2
        exact hK
      case bodyz =>
        rintro ll pre x V hs hlen
        have c9 : V.cell? ⟨hn, 0, none⟩ = some (.int .i64 (pre.length : Nat)) := Joins.cell_of_block hs.head 0
        have f9 : V.frozen? ⟨hn, 0, none⟩ = false := frozen_row hs.head 0
        have s7 := hs.sayOf (q := clP h7 (.slice ap N ac) 52 57 L) (by simp [wkL])
        have c7 : V.cell? ⟨h7, 0, none⟩ = some (.slice ap N ac) := Joins.cell_of_block s7.1 0
        have s6 := hs.sayOf (q := bxP (B5 + 1) #[.bool false] 4) (by simp [wkL])
        have c6 : V.cell? ⟨B5 + 1, 0, none⟩ = some (.bool false) := Joins.cell_of_block s6 0
        have f6 : V.frozen? ⟨B5 + 1, 0, none⟩ = false := frozen_row s6 0
        have s5 := hs.sayOf (q := bxP B5 #[.int .i64 (s : Int)] 3) (by simp [wkL])
        have c5 : V.cell? ⟨B5, 0, none⟩ = some (.int .i64 (s : Int)) := Joins.cell_of_block s5 0
        have hcl := cl_list s7.2
        have HV : Hid (Sep w0 V (wkL hn (pre.length : Nat) q (.slice p N cap) h7 (.slice ap N ac) (B5 + 1) B5 s L (dkP g b m L2 :: rfP h m v2 L2 :: dfP D :: l))) := hs
        have HN1 := HN.out
        clear s5 s6 s7 hs
        by_cases hl : pre.length < N
        · have hz : L[pre.length]? = some L[pre.length] := List.getElem?_eq_getElem (by omega)
          have HPre : Hid (pre ++ [x] <+: L → x = L[pre.length]) := fun hp => pre_at hp hz
          obtain ⟨bb, hbb, a0, a1⟩ := hcl _ _ hz
          rw [hbb] at c7
          clear hbb
          have hl2 : decide (((N : Nat) : Int) ≤ ((pre.length : Nat) : Int)) = false := decide_eq_false (by omega)
          have hl3 : decide (N ≤ pre.length) = false := decide_eq_false (by omega)
          generalize L[pre.length] = z at *
          clear hz hcl HN1
          by_cases h1 : x.1 = z.1
          · have h1b : (x.1 != z.1) = false := by simp [h1]
            by_cases h2 : x.2 = z.2
            · have h2b : (x.2 != z.2) = false := by simp [h2]
              have HI : Hid (Sep w0 (V.setCell ⟨hn, 0, none⟩ (.int .i64 ((pre.length : Nat) + 1))) (wkL hn ((pre ++ [x]).length : Nat) q (.slice p N cap) h7 (.slice ap N ac) (B5 + 1) B5 s L (dkP g b m L2 :: rfP h m v2 L2 :: dfP D :: l))) := by
                have h3 := Sep.setBox (show Sep w0 V (bxP hn #[.int .i64 (pre.length : Nat)] 3 :: _) from HV.out) 0 (.int .i64 ((pre.length : Nat) + 1))
                rw [List.length_append, List.length_singleton, Int.natCast_add]
                exact h3
              have HK : Hid (KpQ q p V (V.setCell ⟨hn, 0, none⟩ (.int .i64 ((pre.length : Nat) + 1)))) := kp_cell (HNE.out) _
              clear h1 h2 HPre
              gi_wp2
              exact ⟨KeepsOthers.setCell _ _ _, HK.out, HI.out⟩
            · have h2b : (x.2 != z.2) = true := by simp [h2]
              have HQ : Hid (¬ pre ++ [x] <+: L) := fun hp => h2 (by rw [HPre.out hp])
              clear h1 h2 HPre
              gi_wp2
              exact ⟨KeepsOthers.setCell _ _ _, rfl, HQ.out⟩
          · have h1b : (x.1 != z.1) = true := by simp [h1]
            have HQ : Hid (¬ pre ++ [x] <+: L) := fun hp => h1 (by rw [HPre.out hp])
            clear h1 HPre
            gi_wp2
            exact ⟨KeepsOthers.setCell _ _ _, rfl, HQ.out⟩
        · have hl2 : decide (((N : Nat) : Int) ≤ ((pre.length : Nat) : Int)) = true := decide_eq_true (by omega)
          have hl3 : decide (N ≤ pre.length) = true := decide_eq_true (by omega)
          have HQ : Hid (¬ pre ++ [x] <+: L) := fun hp => by
            have := hp.length_le
            rw [List.length_append, List.length_singleton] at this
            omega
          clear hcl HN1
          gi_wp2
          exact ⟨KeepsOthers.setCell _ _ _, rfl, HQ.out⟩
      case donez =>
        rintro D2 ys V2 hD2 hys hs2 hmk2
        have hnn : (ys.length : Int) = (N : Int) := by rw [hys, HN.out]
        rw [hnn] at hs2
        have c9 : V2.cell? ⟨hn, 0, none⟩ = some (.int .i64 (N : Int)) := Joins.cell_of_block (show V2.heap[hn]? = _ from hs2.head) 0
        have s7 := hs2.sayOf (q := clP h7 (.slice ap N ac) 52 57 L) (by simp [wkL])
        have c7 : V2.cell? ⟨h7, 0, none⟩ = some (.slice ap N ac) := Joins.cell_of_block s7.1 0
        have s6 := hs2.sayOf (q := bxP (B5 + 1) #[.bool false] 4) (by simp [wkL])
        have c6 : V2.cell? ⟨B5 + 1, 0, none⟩ = some (.bool false) := Joins.cell_of_block s6 0
        have f6 : V2.frozen? ⟨B5 + 1, 0, none⟩ = false := frozen_row s6 0
        have HS9 : Hid (Sep w0 V2 (wkL hn N q (.slice p N cap) h7 (.slice ap N ac) (B5 + 1) B5 s L (dkP g b m L2 :: rfP h m v2 L2 :: dfP D :: l))) := hs2
        have HM2 : Hid (V2.heap[D2]? = some (.deferred (some []))) := hmk2
        have HD2 : Hid (Z.heap.size ≤ D2) := hD2
        have eNN : ((N : Int) == (N : Int)) = true := by simp
        clear s6 s7 hs2 hmk2 hD2 hys hnn
        gi_wp2
        obtain ⟨x1, x2, x3, x4⟩ := walk_end HS9.out HM2.out HD2.out (fun pp hp k hk => HLT2.out _ pp hp k hk)
        refine ⟨by simp, .inl ⟨_, _, rfl, run_takeDeferred x1, ?_⟩⟩
        refine ⟨by simp, .inl ⟨_, _, rfl, run_takeDeferred x2, ?_⟩⟩
        refine ⟨.bool true, ?_, rfl, v2, ?_⟩
        · have hl : (loadVar 4 ⟨B5 + 1, 0, none⟩).run Try.prog (((V2.setCell ⟨B5 + 1, 0, none⟩ (.bool true)).putObj D2 (.deferred none)).putObj D (.deferred none)) = .ok (.bool true) (((V2.setCell ⟨B5 + 1, 0, none⟩ (.bool true)).putObj D2 (.deferred none)).putObj D (.deferred none)) := by simp [loadVar, Try.isAgg4, x3]
          simp [results, asAddr, hl]
        · rw [HL2.out]
          exact x4
      case stopz =>
        rintro D2 cc pre V2 hD2 hpre hx hmk2
        exact absurd hpre hx.2
end Go.Proofs.Ytpghalekcgnefaa
