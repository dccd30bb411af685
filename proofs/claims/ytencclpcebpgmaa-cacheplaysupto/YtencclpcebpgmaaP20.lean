/- Several texts joined, each with its own remark; no condition. -/
import Derived.Test.YtencclpcebpgmaaP18
import Derived.Test.YtencclpcebpgmaaP19
import Derived.Test.YtencclpcebpgmaaP17
import Derived.Test.YtencclpcebpgmaaP10
import Derived.Test.YtencclpcebpgmaaP7
import Derived.Test.YtencclpcebpgmaaP16
import Derived.Deep.Cut
/- A step with the first cache, of both sides, whatever its kind; no condition but the counts' bounds. -/
namespace Go.Proofs.Ytencclpcebpgmaa
open Go.RowKit Go.Maps
theorem asq_ok {w W : World} {gx d dr c g n : Nat} {c1 w1 : Value} {s : CSt} {t : St} {u : RD} {i : Nat} {l : List Part} (h : AskT w W gx d dr c g n c1 w1 s t u i l) (hi : i < 1000000) (sc : Value) (o A F : Int) (hF : 0 ≤ F ∧ F < 65536) :
    Calls Try.prog 14 #[.pointer (some ⟨gx, 0, none⟩), .agg #[.int .u8 o, sc, .int .i64 A, .int .u16 F], .int .i64 1] W fun e W' => e = .returned (.bool true) ∧ ∃ s' t' u', AskT w W' gx d dr c g n c1 w1 s' t' u' (i + 1) l := by
  by_cases h0 : o = 0
  · subst h0; exact asq_0 h hi _ sc _ _ rfl A rfl F rfl hF
  by_cases h1 : o = 1
  · subst h1; exact asq_1 h hi _ sc _ _ rfl A rfl F rfl hF
  by_cases h2 : o = 2
  · subst h2; exact asq_2 h hi _ sc _ _ rfl A rfl F rfl hF
  by_cases h3 : o = 3
  · subst h3; exact asq_3 h hi _ sc _ _ rfl A rfl F rfl hF
  by_cases h4 : o = 4
  · subst h4; exact asq_4 h hi _ sc _ _ rfl A rfl F rfl hF
  exact asq_x h hi _ sc _ _ o rfl h0 h1 h2 h3 h4 A rfl F rfl hF
end Go.Proofs.Ytencclpcebpgmaa
/- The second cache is asked; the disks themselves are written, brought to a barrier, lit and crashed: beside whatever lies apart; no condition but the counts' bounds. -/
namespace Go.Proofs.Ytencclpcebpgmaa
open Go.RowKit Go.Maps
section
variable {w W W' : World} {gx d dr n : Nat} {ca ga cb gb : Value} {t : St} {u : RD} {i : Nat} {l : List Part}
/-- The second cache is asked. -/
theorem PlN.ask1 (h : PlN w W gx d dr n ca ga cb gb t u i l) (hM : Mate t n u) (hc : ¬ cb = .pointer none) (hi : i < 1000000) (sc : Value) (o A F : Int) (hF : 0 ≤ F ∧ F < 65536) :
    Calls Try.prog 14 #[.pointer (some ⟨gx, 0, none⟩), .agg #[.int .u8 o, sc, .int .i64 A, .int .u16 F], .int .i64 1] W fun e W' => e = .returned (.bool true) ∧ ∃ t' u', Mate t' n u' ∧ PlN w W' gx d dr n ca ga cb gb t' u' (i + 1) l := by
  obtain ⟨L, R, a, b, vl, vk, T1, T2, rfl, rfl, h3, ⟨rfl, rfl⟩, h5, h6, h7, h8, h9⟩ := h
  cases b with
  | none => exact absurd rfl hc
  | some x =>
    have y1 : Sep w W (kP x.K x.s :: dP L t :: rkP x.g R.g x.v x.s :: rdP R n u :: bxP gx (xRo L.d R.g ca (cc (some x)) ga (cg (some x)) vl vk) 36 :: bkP enW 3 54 1 vl T1 :: bkP enW 3 54 1 vk T2 :: (cps R.g a ++ l)) := by
      have g1 := h9.perm (List.Perm.append_left [dP L t, rdP R n u, bxP gx (xRo L.d R.g ca (cc (some x)) ga (cg (some x)) vl vk) 36, bkP enW 3 54 1 vl T1, bkP enW 3 54 1 vk T2] (List.perm_append_comm_assoc (cps R.g a) [kP x.K x.s, rkP x.g R.g x.v x.s] l))
      have g2 := g1.perm (List.perm_middle (l₁ := [dP L t, rdP R n u, bxP gx (xRo L.d R.g ca (cc (some x)) ga (cg (some x)) vl vk) 36, bkP enW 3 54 1 vl T1, bkP enW 3 54 1 vk T2]) (a := kP x.K x.s) (l₂ := rkP x.g R.g x.v x.s :: (cps R.g a ++ l)))
      have g3 := g2.perm (List.perm_middle (l₁ := [kP x.K x.s, dP L t, rdP R n u, bxP gx (xRo L.d R.g ca (cc (some x)) ga (cg (some x)) vl vk) 36, bkP enW 3 54 1 vl T1, bkP enW 3 54 1 vk T2]) (a := rkP x.g R.g x.v x.s) (l₂ := cps R.g a ++ l))
      exact g3.back
    have y2 := (sep_joinP y1 h6).swap
    have y3 : Sep w W (rcP x.g R x.v n x.s u :: pcP x.K L x.s t :: bxP gx (xRo L.d R.g ca (cc (some x)) ga (cg (some x)) vl vk) 36 :: bkP enW 3 54 1 vl T1 :: bkP enW 3 54 1 vk T2 :: (cps R.g a ++ l)) := sep_joinR (Sep.perm y2 (List.Perm.cons _ (List.Perm.swap _ _ _)))
    have hA : AskT w W gx L.d R.g x.K.c x.g n ca ga x.s t u i (cps R.g a ++ l) := ⟨x.K, L, R, x.v, vl, vk, T1, T2, rfl, rfl, rfl, hM, h7, h8, y3.swap⟩
    refine (asq_ok hA hi sc o A F hF).mono ?_
    rintro e W' ⟨he, s', t', u', K, L', R', v, vl', vk', T1', T2', q1, q2, q3, q4, q5, q6, q7⟩
    obtain ⟨z1, z2⟩ := sep_splitP q7
    have z3 : Sep w W' (rkP x.g R'.g v s' :: rdP R' n u' :: kP K s' :: dP L' t' :: bxP gx (xRo2 L.d R.g x.K.c x.g ca ga vl' vk') 36 :: bkP enW 3 54 1 vl' T1' :: bkP enW 3 54 1 vk' T2' :: (cps R.g a ++ l)) := sep_splitR z1.third
    rw [q3] at z3
    refine ⟨he, t', u', q4, L', R', a, some ⟨K, x.g, v, s'⟩, vl', vk', T1', T2', q2, q3, h3, ⟨by show ptr K.c = ptr x.K.c; rw [q1], rfl⟩, h5, by show K.d = L.d; rw [z2, q2], q5, q6, ?_⟩
    have g1 := z3.perm (List.perm_middle (l₁ := [rkP x.g R.g v s', rdP R' n u', kP K s']) (a := dP L' t') (l₂ := bxP gx (xRo2 L.d R.g x.K.c x.g ca ga vl' vk') 36 :: bkP enW 3 54 1 vl' T1' :: bkP enW 3 54 1 vk' T2' :: (cps R.g a ++ l)))
    have g2 : Sep w W' (dP L' t' :: rdP R' n u' :: rkP x.g R.g v s' :: kP K s' :: bxP gx (xRo2 L.d R.g x.K.c x.g ca ga vl' vk') 36 :: bkP enW 3 54 1 vl' T1' :: bkP enW 3 54 1 vk' T2' :: (cps R.g a ++ l)) := g1.perm (List.Perm.cons _ (List.Perm.swap _ _ _))
    have g3 := g2.perm ((List.perm_middle (l₁ := [dP L' t', rdP R' n u', rkP x.g R.g v s', kP K s', bxP gx (xRo2 L.d R.g x.K.c x.g ca ga vl' vk') 36, bkP enW 3 54 1 vl' T1']) (a := bkP enW 3 54 1 vk' T2') (l₂ := cps R.g a ++ l)))
    have g4 := g3.perm ((List.perm_middle (l₁ := [bkP enW 3 54 1 vk' T2', dP L' t', rdP R' n u', rkP x.g R.g v s', kP K s', bxP gx (xRo2 L.d R.g x.K.c x.g ca ga vl' vk') 36]) (a := bkP enW 3 54 1 vl' T1') (l₂ := cps R.g a ++ l)))
    have g5 := g4.perm ((List.perm_middle (l₁ := [bkP enW 3 54 1 vl' T1', bkP enW 3 54 1 vk' T2', dP L' t', rdP R' n u', rkP x.g R.g v s', kP K s']) (a := bxP gx (xRo2 L.d R.g x.K.c x.g ca ga vl' vk') 36) (l₂ := cps R.g a ++ l)))
    have g6 := g5.perm ((List.perm_middle (l₁ := [bxP gx (xRo2 L.d R.g x.K.c x.g ca ga vl' vk') 36, bkP enW 3 54 1 vl' T1', bkP enW 3 54 1 vk' T2', dP L' t']) (a := rdP R' n u') (l₂ := rkP x.g R.g v s' :: kP K s' :: (cps R.g a ++ l))))
    have g7 := g6.perm ((List.perm_middle (l₁ := [rdP R' n u', bxP gx (xRo2 L.d R.g x.K.c x.g ca ga vl' vk') 36, bkP enW 3 54 1 vl' T1', bkP enW 3 54 1 vk' T2']) (a := dP L' t') (l₂ := rkP x.g R.g v s' :: kP K s' :: (cps R.g a ++ l))))
    have g8 := g7.perm (List.Perm.cons _ (List.Perm.cons _ (List.Perm.cons _ (List.Perm.cons _ (List.Perm.cons _ (List.Perm.swap _ _ _))))))
    exact g8.perm (List.Perm.append_left [dP L' t', rdP R' n u', bxP gx (xRo2 L.d R.g x.K.c x.g ca ga vl' vk') 36, bkP enW 3 54 1 vl' T1', bkP enW 3 54 1 vk' T2'] (List.perm_append_comm_assoc [kP K s', rkP x.g R.g v s'] (cps R.g a) l))
/-- A call of the disk's, as Has tells it. -/
theorem via_has {L : Loc} (hD : DiskAt W L t) {t' : St} {f : Nat} {av : Array Value} {E : Ending} (hq : ∀ P : World → Loc → Prop, Stays P → Has P W L.d t → Calls Try.prog f av W fun e W' => e = E ∧ Has P W' L.d t') :
    Calls Try.prog f av W fun e W' => e = E ∧ ∃ L', DiskAt W' L' t' ∧ Goes W W' L L' :=
  (hq (fun W' L' => Goes W W' L L') (fun _ _ _ _ _ h1 h2 => h1.trans h2) ⟨L, rfl, hD, Goes.refl _ _⟩).mono fun _ _ ⟨he, L', _, h2, h3⟩ => ⟨he, L', h2, h3⟩
theorem cn_write (hc : Cn t i) (k : Int) (f : Nat → Int) : Cn (writeV t k f) (i + 1) := by
  have h1 := hc.ops
  have h2 := hc.made
  have h3 := hc.reads
  unfold writeV
  split
  · split
    · refine ⟨?_, ?_, ?_, ?_⟩
      · unfold writeS St.ops
        simp only
        rw [letV_done]
        unfold St.ops at h1
        simp only [List.length_append, List.length_map, List.length_singleton] at h1 ⊢
        omega
      · unfold writeS letV
        split
        · show t.made ≤ _; omega
        · show t.made + 1 ≤ _; omega
      · unfold writeS letV
        split
        · show t.reads ≤ _; omega
        · show t.reads ≤ _; omega
      · unfold writeS letV
        split
        · exact hc.claims
        · exact hc.claims
    · unfold letV
      split
      · exact ⟨by show t.ops.length ≤ _; omega, by show t.made ≤ _; omega, by show t.reads ≤ _; omega, hc.claims⟩
      · exact ⟨by show t.ops.length ≤ _; omega, by show t.made + 1 ≤ _; omega, by show t.reads ≤ _; omega, hc.claims⟩
  · exact hc.more
theorem pl_write (h : PlN w W gx d dr n ca ga cb gb t u i l) (hi : i ≤ 1048576) (k : Int) {f : Nat → Int} (hf : Can f) : Calls Try.prog 42 #[.pointer (some ⟨d, 0, none⟩), .int .i64 k, .agg (blk f)] W fun e W' => e = .returned (.int .i64 (writeE t k)) ∧ PlN w W' gx d dr n ca ga cb gb (writeV t k f) u (i + 1) l := by
  have hc := h.cn
  refine h.disk (by omega) (cn_write hc k f) fun L hL hD => ?_
  rw [← hL]
  exact via_has hD fun P hP hH => has_write hP hH (hc.room hi) k hf
theorem pl_rwrite (h : PlN w W gx d dr n ca ga cb gb t u i l) (hs : Small u) (k : Int) (f : Nat → Int) : Calls Try.prog 43 #[.pointer (some ⟨dr, 0, none⟩), .int .i64 k, .agg (blk f)] W fun e W' => e = .returned (.int .i64 (wtE n u k)) ∧ PlN w W' gx d dr n ca ga cb gb t (wtV n u k f) i l := by
  refine h.rdisk fun R hR hD => ?_
  rw [← hR]
  exact write6 hD hs k f
theorem cn_bar (hc : Cn t i) : Cn (barV t) (i + 1) := by
  have h1 := hc.ops
  have h2 := hc.made
  have h3 := hc.reads
  have kl : Cn (letV t) (i + 1) := by
    unfold letV
    split
    · exact ⟨by show t.ops.length ≤ _; omega, by show t.made ≤ _; omega, by show t.reads ≤ _; omega, hc.claims⟩
    · exact ⟨by show t.ops.length ≤ _; omega, by show t.made + 1 ≤ _; omega, by show t.reads ≤ _; omega, hc.claims⟩
  unfold barV
  split
  · exact hc.more
  · split
    · obtain ⟨hh, e⟩ := holdAll_same t.wait (letV t)
      have e2 : barS t = { letV t with held := hh, done := t.ops ++ [⟨2, 0, nought⟩], wait := [] } := by unfold barS; rw [e]
      refine ⟨?_, ?_, ?_, ?_⟩
      · rw [barS_ops, List.length_append]
        show t.ops.length + 1 ≤ _
        omega
      · rw [e2]; exact kl.made
      · rw [e2]; exact kl.reads
      · rw [e2]; exact kl.claims
    · exact kl
theorem pl_bar (h : PlN w W gx d dr n ca ga cb gb t u i l) (hi : i ≤ 1048576) : Calls Try.prog 22 #[.pointer (some ⟨d, 0, none⟩)] W fun e W' => e = .returned (.int .i64 (barE t)) ∧ PlN w W' gx d dr n ca ga cb gb (barV t) u (i + 1) l := by
  have hc := h.cn
  refine h.disk (by omega) (cn_bar hc) fun L hL hD => ?_
  rw [← hL]
  exact via_has hD fun P hP hH => has_barrier hP hH (hc.room hi)
theorem pl_rbar (h : PlN w W gx d dr n ca ga cb gb t u i l) (hs : Small u) (hn : n ≤ 1000000) : Calls Try.prog 23 #[.pointer (some ⟨dr, 0, none⟩)] W fun e W' => e = .returned (.int .i64 (brE u)) ∧ PlN w W' gx d dr n ca ga cb gb t (brV u) i l := by
  refine h.rdisk fun R hR hD => ?_
  rw [← hR]
  exact barrier6 hD hs hn
theorem pl_fuse (h : PlN w W gx d dr n ca ga cb gb t u i l) (k : Int) (hk : k ≤ 9223372036854775807) : Calls Try.prog 20 #[.pointer (some ⟨d, 0, none⟩), .int .i64 k] W fun e W' => e = .returned (.tuple #[]) ∧ PlN w W' gx d dr n ca ga cb gb (fuseV t k) u i l := by
  have hc := h.cn
  refine h.disk (Nat.le_refl _) ?_ fun L hL hD => ?_
  · unfold fuseV
    split
    · exact hc
    · exact ⟨hc.ops, hc.made, hc.reads, hc.claims⟩
  · rw [← hL]
    exact via_has hD fun P hP hH => has_fuse hP hH k hk
theorem pl_light (h : PlN w W gx d dr n ca ga cb gb t u i l) (k : Int) : Calls Try.prog 21 #[.pointer (some ⟨dr, 0, none⟩), .int .i64 k] W fun e W' => e = .returned (.tuple #[]) ∧ PlN w W' gx d dr n ca ga cb gb t (lgV u k) i l := by
  refine h.rdisk fun R hR hD => ?_
  rw [← hR]
  exact (light6 hD k).mono fun e W' ⟨h1, h2, h3⟩ => ⟨h1, h2, h3.mono fun _ _ q => .inl q⟩
theorem pl_crash (h : PlN w W gx d dr n ca ga cb gb t u i l) (hi : i ≤ 1048576) : Calls Try.prog 32 #[.pointer (some ⟨d, 0, none⟩), .slice none 0 0] W fun e W' => e = .returned (.int .i64 0) ∧ PlN w W' gx d dr n ca ga cb gb (crashS t []) u i l := by
  have hc := h.cn
  refine h.disk (Nat.le_refl _) ?_ fun L hL hD => ?_
  · unfold crashS
    rw [keptL_nil]
    exact ⟨by simp [St.ops], hc.made, hc.reads, hc.claims⟩
  · rw [← hL]
    refine crash_of hD (kl := []) ⟨none, 0, rfl, fun q => absurd q (by simp)⟩ ?_ (by simp)
    have := ops_len t
    have := hc.ops
    omega
theorem pl_rcrash (h : PlN w W gx d dr n ca ga cb gb t u i l) (hn : n ≤ 1000000) : Calls Try.prog 33 #[.pointer (some ⟨dr, 0, none⟩)] W fun e W' => e = .returned (.tuple #[]) ∧ PlN w W' gx d dr n ca ga cb gb t (crV u) i l := by
  refine h.rdisk fun R hR hD => ?_
  rw [← hR]
  exact crash6 hD hn
end
end Go.Proofs.Ytencclpcebpgmaa
/- One step with one of two caches of one disk, or with the disk itself, of both sides: the same answer, and they stand alike behind it; no condition but the counts' bounds. -/
namespace Go.Proofs.Ytencclpcebpgmaa
open Go.RowKit Go.Maps
set_option linter.unusedVariables false
section
variable {w W W' : World} {gx d dr n : Nat} {ca ga cb gb : Value} {t : St} {u : RD} {i : Nat} {l : List Part}
theorem app3 {p1 p2 p3 p4 p5 p : Part} {A B l : List Part} : (p :: p1 :: p2 :: p3 :: p4 :: p5 :: (A ++ (B ++ l))).Perm (p1 :: p2 :: p3 :: p4 :: p5 :: (A ++ (B ++ (p :: l)))) := by
  have h := (List.perm_middle (l₁ := [p1, p2, p3, p4, p5] ++ (A ++ B)) (a := p) (l₂ := l)).symm
  simpa only [List.append_assoc, List.cons_append, List.nil_append] using h
theorem PlN.box (h : PlN w W gx d dr n ca ga cb gb t u i l) (cs : Array Value) (ty : TypeId) : PlN w (W.alloc (.cells cs ty)) gx d dr n ca ga cb gb t u i (bxP W.heap.size cs ty :: l) := by
  obtain ⟨L, R, a, b, vl, vk, T1, T2, h1, h2, h3, h4, h5, h6, h7, h8, h9⟩ := h
  exact ⟨L, R, a, b, vl, vk, T1, T2, h1, h2, h3, h4, h5, h6, h7, h8, (sep_box h9 cs ty).perm app3⟩
theorem PlN.drop {p : Part} (h : PlN w W gx d dr n ca ga cb gb t u i (p :: l)) : PlN w W gx d dr n ca ga cb gb t u i l := by
  obtain ⟨L, R, a, b, vl, vk, T1, T2, h1, h2, h3, h4, h5, h6, h7, h8, h9⟩ := h
  exact ⟨L, R, a, b, vl, vk, T1, T2, h1, h2, h3, h4, h5, h6, h7, h8, (h9.perm app3.symm).drop⟩
theorem PlN.part {p : Part} (h : PlN w W gx d dr n ca ga cb gb t u i (p :: l)) : p.say W := by
  obtain ⟨L, R, a, b, vl, vk, T1, T2, h1, h2, h3, h4, h5, h6, h7, h8, h9⟩ := h
  exact (h9.perm app3.symm).head
theorem PlN.c0 (h : PlN w W gx d dr n ca ga cb gb t u i l) : W.cell? ⟨gx, 0, none⟩ = some (.pointer (some ⟨d, 0, none⟩)) ∧ W.cell? ⟨gx, 1, none⟩ = some (.pointer (some ⟨dr, 0, none⟩)) ∧ W.cell? ⟨gx, 2, none⟩ = some ca ∧ W.cell? ⟨gx, 3, none⟩ = some cb := by
  obtain ⟨vl, vk, h⟩ := h.row
  exact ⟨Joins.cell_of_block h 0, Joins.cell_of_block h 1, Joins.cell_of_block h 2, Joins.cell_of_block h 3⟩
theorem PlN.first (h : PlN w W gx d dr n ca ga cb gb t u i l) : ca = .pointer none ∨ ∃ c, ca = .pointer (some ⟨c, 0, none⟩) := by
  obtain ⟨L, R, a, b, vl, vk, T1, T2, h1, h2, h3, h4, h5, h6, h7, h8, h9⟩ := h
  rw [← h3.1]
  cases a with
  | none => exact .inl rfl
  | some x => exact .inr ⟨_, rfl⟩
theorem PlN.second (h : PlN w W gx d dr n ca ga cb gb t u i l) : cb = .pointer none ∨ ∃ c, cb = .pointer (some ⟨c, 0, none⟩) := by
  obtain ⟨L, R, a, b, vl, vk, T1, T2, h1, h2, h3, h4, h5, h6, h7, h8, h9⟩ := h
  rw [← h4.1]
  cases b with
  | none => exact .inl rfl
  | some x => exact .inr ⟨_, rfl⟩
/-- What a step's drawn regions read. -/
def StS (gx d dr B : Nat) (A F : Int) (u : World) : Prop := u.cell? ⟨gx, 0, none⟩ = some (.pointer (some ⟨d, 0, none⟩)) ∧ u.cell? ⟨gx, 1, none⟩ = some (.pointer (some ⟨dr, 0, none⟩)) ∧ u.cell? ⟨B, 2, none⟩ = some (.int .i64 A) ∧ u.cell? ⟨B, 3, none⟩ = some (.int .u16 F)
theorem PlN.sts {B : Nat} {A F : Int} {x y : Value} (h : PlN w W gx d dr n ca ga cb gb t u i (bxP B #[x, y, .int .i64 A, .int .u16 F] 46 :: l)) : StS gx d dr B A F W := by
  have hp : W.heap[B]? = some (.cells #[x, y, .int .i64 A, .int .u16 F] 46) := h.part
  exact ⟨h.c0.1, h.c0.2.1, Joins.cell_of_block hp 2, Joins.cell_of_block hp 3⟩
theorem exec_mvP {o : Oper} {a : Act} {x : Operand} {v : Value} {V : World} (ho : o.op = .move x) (hx : a.eval x = v) : (execOp a.eval o).run Try.prog V = .ok (.value v) V := by simp [execOp, ho, hx]
set_option maxRecDepth 20000 in
set_option maxHeartbeats 4000000 in
theorem step_5 (h : PlN w W gx d dr n ca ga cb gb t u i l) (hM : Mate t n u) (hn : n ≤ 64) (hi : i < 1000000) (A F : Int) (sc : Bool) (hA : A ≤ 9223372036854775807) (hF : 0 ≤ F ∧ F < 65536) :
    Calls Try.prog 13 #[.pointer (some ⟨gx, 0, none⟩), .agg #[.int .u8 5, .bool sc, .int .i64 A, .int .u16 F]] W fun e W' => e = .returned (.bool true) ∧ ∃ t' u', Mate t' n u' ∧ PlN w W' gx d dr n ca ga cb gb t' u' (i + 1) l := by
  have HM : Hid (Mate t n u) := hM
  have HP : Hid (PlN w (W.alloc (.cells #[.int .u8 5, .bool sc, .int .i64 A, .int .u16 F] 46)) gx d dr n ca ga cb gb t u i (bxP W.heap.size #[.int .u8 5, .bool sc, .int .i64 A, .int .u16 F] 46 :: l)) := h.box _ _
  have HOk : Hid (Ok t) := h.ok
  have hsm : Hid (Small u) := hM.small h.cn (by omega) h.ok
  have hr : (W.alloc (.cells #[.int .u8 5, .bool sc, .int .i64 A, .int .u16 F] 46)).heap[W.heap.size]? = some (.cells #[.int .u8 5, .bool sc, .int .i64 A, .int .u16 F] 46) := HP.out.part
  have e0 : (W.alloc (.cells #[.int .u8 5, .bool sc, .int .i64 A, .int .u16 F] 46)).cell? ⟨W.heap.size, 0, none⟩ = some (.int .u8 5) := Joins.cell_of_block hr 0
  have e1 : (W.alloc (.cells #[.int .u8 5, .bool sc, .int .i64 A, .int .u16 F] 46)).cell? ⟨W.heap.size, 1, none⟩ = some (.bool sc) := Joins.cell_of_block hr 1
  have e2 : (W.alloc (.cells #[.int .u8 5, .bool sc, .int .i64 A, .int .u16 F] 46)).cell? ⟨W.heap.size, 2, none⟩ = some (.int .i64 A) := Joins.cell_of_block hr 2
  have e3 : (W.alloc (.cells #[.int .u8 5, .bool sc, .int .i64 A, .int .u16 F] 46)).cell? ⟨W.heap.size, 3, none⟩ = some (.int .u16 F) := Joins.cell_of_block hr 3
  obtain ⟨x0, x1, x2, x3⟩ := HP.out.c0
  clear h hM hr
  go_enter Try.func13, Try.ntmps13
  go_upto_region 1 with fail
  generalize W.alloc (.cells #[.int .u8 5, .bool sc, .int .i64 A, .int .u16 F] 46) = X at *
  generalize W.heap.size = B at *
  go_wp2
  have HP2 : Hid (PlN w X.drew gx d dr n ca ga cb gb t u i (bxP B #[.int .u8 5, .bool sc, .int .i64 A, .int .u16 F] 46 :: l)) := HP.out.later (Below.refl _ _).drew
  have HS : Hid (StS gx d dr B A F X.drew) := HP2.out.sts
  refine wp_region_ord (S := StS gx d dr B A F) [(0, true), (1, true), (2, true), (3, true), (4, true), (5, true), (6, true), (7, true), (10, true), (11, true), (12, true), (13, true), (14, true), (15, true), (16, true), (17, true), (8, false), (9, false), (18, false), (19, false), (20, true), (21, true)] (by kernel_rfl) rfl (by kernel_rfl) (fun d _ _ _ _ h => by cases d <;> exact h) HS.out ?_
  simp only [inOrd, List.getElem?_cons_zero, List.getElem?_cons_succ]
  refine wpOrd_yield (v := .pointer (some ⟨gx, 0, none⟩)) rfl (fun u _ => exec_mvP rfl rfl) ?_
  simp only [Act.put, List.setIfInBounds_toArray, List.set_cons_succ, List.set_cons_zero]
  refine wpOrd_yield (v := .pointer (some ⟨gx, 0, none⟩)) rfl (fun u _ => by go_simp) ?_
  simp only [Act.put, List.setIfInBounds_toArray, List.set_cons_succ, List.set_cons_zero]
  refine wpOrd_yield (v := .pointer (some ⟨gx, 0, none⟩)) rfl (fun u _ => by go_simp) ?_
  simp only [Act.put, List.setIfInBounds_toArray, List.set_cons_succ, List.set_cons_zero]
  refine wpOrd_yield (v := .pointer (some ⟨d, 0, none⟩)) rfl (fun u hu => by have := hu.1; go_simp) ?_
  simp only [Act.put, List.setIfInBounds_toArray, List.set_cons_succ, List.set_cons_zero]
  refine wpOrd_yield (v := .pointer (some ⟨B, 2, none⟩)) rfl (fun u _ => by go_simp) ?_
  simp only [Act.put, List.setIfInBounds_toArray, List.set_cons_succ, List.set_cons_zero]
  refine wpOrd_yield (v := .int .i64 A) rfl (fun u hu => by have := hu.2.2.1; go_simp) ?_
  simp only [Act.put, List.setIfInBounds_toArray, List.set_cons_succ, List.set_cons_zero]
  refine wpOrd_yield (v := .pointer (some ⟨B, 3, none⟩)) rfl (fun u _ => by go_simp) ?_
  simp only [Act.put, List.setIfInBounds_toArray, List.set_cons_succ, List.set_cons_zero]
  refine wpOrd_yield (v := .int .u16 F) rfl (fun u hu => by have := hu.2.2.2; go_simp) ?_
  simp only [Act.put, List.setIfInBounds_toArray, List.set_cons_succ, List.set_cons_zero]
  refine wpOrd_yield (v := .pointer (some ⟨gx, 0, none⟩)) rfl (fun u _ => exec_mvP rfl rfl) ?_
  simp only [Act.put, List.setIfInBounds_toArray, List.set_cons_succ, List.set_cons_zero]
  refine wpOrd_yield (v := .pointer (some ⟨gx, 0, none⟩)) rfl (fun u _ => by go_simp) ?_
  simp only [Act.put, List.setIfInBounds_toArray, List.set_cons_succ, List.set_cons_zero]
  refine wpOrd_yield (v := .pointer (some ⟨gx, 1, none⟩)) rfl (fun u _ => by go_simp) ?_
  simp only [Act.put, List.setIfInBounds_toArray, List.set_cons_succ, List.set_cons_zero]
  refine wpOrd_yield (v := .pointer (some ⟨dr, 0, none⟩)) rfl (fun u hu => by have := hu.2.1; go_simp) ?_
  simp only [Act.put, List.setIfInBounds_toArray, List.set_cons_succ, List.set_cons_zero]
  refine wpOrd_yield (v := .pointer (some ⟨B, 2, none⟩)) rfl (fun u _ => by go_simp) ?_
  simp only [Act.put, List.setIfInBounds_toArray, List.set_cons_succ, List.set_cons_zero]
  refine wpOrd_yield (v := .int .i64 A) rfl (fun u hu => by have := hu.2.2.1; go_simp) ?_
  simp only [Act.put, List.setIfInBounds_toArray, List.set_cons_succ, List.set_cons_zero]
  refine wpOrd_yield (v := .pointer (some ⟨B, 3, none⟩)) rfl (fun u _ => by go_simp) ?_
  simp only [Act.put, List.setIfInBounds_toArray, List.set_cons_succ, List.set_cons_zero]
  refine wpOrd_yield (v := .int .u16 F) rfl (fun u hu => by have := hu.2.2.2; go_simp) ?_
  simp only [Act.put, List.setIfInBounds_toArray, List.set_cons_succ, List.set_cons_zero]
  clear x0 x1 x2 x3 e0 e1 e2 e3
  refine wpOrd_call rfl 35 _ _ rfl Try.call35 [.int .u16 F] rfl ?_
  refine (fill_any F hF _).mono ?_
  rintro e Y1 ⟨rfl, hb1⟩
  refine ⟨_, rfl, (HP2.out.later hb1).sts, ?_⟩
  simp only [Act.put, List.setIfInBounds_toArray, List.set_cons_succ, List.set_cons_zero]
  have HP3 : Hid (PlN w Y1 gx d dr n ca ga cb gb t u i (bxP B #[.int .u8 5, .bool sc, .int .i64 A, .int .u16 F] 46 :: l)) := HP2.out.later hb1
  clear hb1
  refine wpOrd_call rfl 42 _ _ rfl Try.call42 [.pointer (some ⟨d, 0, none⟩), .int .i64 A, .agg (blk (fillF F))] rfl ?_
  refine (pl_write HP3.out (by omega) A (fill_can F hF)).mono ?_
  rintro e Y2 ⟨rfl, h4⟩
  refine ⟨_, rfl, h4.sts, ?_⟩
  simp only [Act.put, List.setIfInBounds_toArray, List.set_cons_succ, List.set_cons_zero]
  have HP4 : Hid (PlN w Y2 gx d dr n ca ga cb gb (writeV t A (fillF F)) u (i + 1) (bxP B #[.int .u8 5, .bool sc, .int .i64 A, .int .u16 F] 46 :: l)) := h4
  clear h4
  refine wpOrd_call rfl 35 _ _ rfl Try.call35 [.int .u16 F] rfl ?_
  refine (fill_any F hF _).mono ?_
  rintro e Y3 ⟨rfl, hb1⟩
  refine ⟨_, rfl, (HP4.out.later hb1).sts, ?_⟩
  simp only [Act.put, List.setIfInBounds_toArray, List.set_cons_succ, List.set_cons_zero]
  have HP5 : Hid (PlN w Y3 gx d dr n ca ga cb gb (writeV t A (fillF F)) u (i + 1) (bxP B #[.int .u8 5, .bool sc, .int .i64 A, .int .u16 F] 46 :: l)) := HP4.out.later hb1
  clear hb1
  refine wpOrd_call rfl 43 _ _ rfl Try.call43 [.pointer (some ⟨dr, 0, none⟩), .int .i64 A, .agg (blk (fillF F))] rfl ?_
  refine (pl_rwrite HP5.out hsm.out A (fillF F)).mono ?_
  rintro e Y4 ⟨rfl, h6⟩
  refine ⟨_, rfl, h6.sts, ?_⟩
  simp only [Act.put, List.setIfInBounds_toArray, List.set_cons_succ, List.set_cons_zero]
  have HF : Hid (∃ t' u', Mate t' n u' ∧ PlN w Y4 gx d dr n ca ga cb gb t' u' (i + 1) l) := ⟨_, _, HM.out.write HOk.out.fuse.1 A (fillF F), h6.drop⟩
  have hE : wtE n u A = writeE t A := HM.out.wtE A
  rw [hE]
  generalize writeE t A = q at *
  clear h6 HP HP2 HP3 HP4 HP5 HS hE
  refine wpOrd_yield (v := .bool true) rfl (fun u _ => by go_simp) ?_
  simp only [Act.put, List.setIfInBounds_toArray, List.set_cons_succ, List.set_cons_zero]
  refine wpOrd_yield (v := .bool true) rfl (fun u _ => by go_simp) ?_
  simp only [Act.put, List.setIfInBounds_toArray, List.set_cons_succ, List.set_cons_zero]
  refine wpOrd_nil ?_
  go_wp2
  go_ret
  exact ⟨rfl, HF.out⟩
set_option maxRecDepth 20000 in
set_option maxHeartbeats 4000000 in
theorem step_6 (h : PlN w W gx d dr n ca ga cb gb t u i l) (hM : Mate t n u) (hn : n ≤ 64) (hi : i < 1000000) (A F : Int) (sc : Bool) (hA : A ≤ 9223372036854775807) (hF : 0 ≤ F ∧ F < 65536) :
    Calls Try.prog 13 #[.pointer (some ⟨gx, 0, none⟩), .agg #[.int .u8 6, .bool sc, .int .i64 A, .int .u16 F]] W fun e W' => e = .returned (.bool true) ∧ ∃ t' u', Mate t' n u' ∧ PlN w W' gx d dr n ca ga cb gb t' u' (i + 1) l := by
  have HM : Hid (Mate t n u) := hM
  have HP : Hid (PlN w (W.alloc (.cells #[.int .u8 6, .bool sc, .int .i64 A, .int .u16 F] 46)) gx d dr n ca ga cb gb t u i (bxP W.heap.size #[.int .u8 6, .bool sc, .int .i64 A, .int .u16 F] 46 :: l)) := h.box _ _
  have HOk : Hid (Ok t) := h.ok
  have hsm : Hid (Small u) := hM.small h.cn (by omega) h.ok
  have hr : (W.alloc (.cells #[.int .u8 6, .bool sc, .int .i64 A, .int .u16 F] 46)).heap[W.heap.size]? = some (.cells #[.int .u8 6, .bool sc, .int .i64 A, .int .u16 F] 46) := HP.out.part
  have e0 : (W.alloc (.cells #[.int .u8 6, .bool sc, .int .i64 A, .int .u16 F] 46)).cell? ⟨W.heap.size, 0, none⟩ = some (.int .u8 6) := Joins.cell_of_block hr 0
  have e1 : (W.alloc (.cells #[.int .u8 6, .bool sc, .int .i64 A, .int .u16 F] 46)).cell? ⟨W.heap.size, 1, none⟩ = some (.bool sc) := Joins.cell_of_block hr 1
  have e2 : (W.alloc (.cells #[.int .u8 6, .bool sc, .int .i64 A, .int .u16 F] 46)).cell? ⟨W.heap.size, 2, none⟩ = some (.int .i64 A) := Joins.cell_of_block hr 2
  have e3 : (W.alloc (.cells #[.int .u8 6, .bool sc, .int .i64 A, .int .u16 F] 46)).cell? ⟨W.heap.size, 3, none⟩ = some (.int .u16 F) := Joins.cell_of_block hr 3
  obtain ⟨x0, x1, x2, x3⟩ := HP.out.c0
  clear h hM hr
  go_enter Try.func13, Try.ntmps13
  go_upto_region 1 with fail
  generalize W.alloc (.cells #[.int .u8 6, .bool sc, .int .i64 A, .int .u16 F] 46) = X at *
  generalize W.heap.size = B at *
  go_wp2
  have HP2 : Hid (PlN w X.drew gx d dr n ca ga cb gb t u i (bxP B #[.int .u8 6, .bool sc, .int .i64 A, .int .u16 F] 46 :: l)) := HP.out.later (Below.refl _ _).drew
  have HS : Hid (StS gx d dr B A F X.drew) := HP2.out.sts
  refine wp_region_ord (S := StS gx d dr B A F) [(0, true), (1, true), (2, true), (3, true), (5, true), (6, true), (7, true), (8, true), (4, false), (9, false), (10, true), (11, true)] (by kernel_rfl) rfl (by kernel_rfl) (fun d _ _ _ _ h => by cases d <;> exact h) HS.out ?_
  simp only [inOrd, List.getElem?_cons_zero, List.getElem?_cons_succ]
  refine wpOrd_yield (v := .pointer (some ⟨gx, 0, none⟩)) rfl (fun u _ => exec_mvP rfl rfl) ?_
  simp only [Act.put, List.setIfInBounds_toArray, List.set_cons_succ, List.set_cons_zero]
  refine wpOrd_yield (v := .pointer (some ⟨gx, 0, none⟩)) rfl (fun u _ => by go_simp) ?_
  simp only [Act.put, List.setIfInBounds_toArray, List.set_cons_succ, List.set_cons_zero]
  refine wpOrd_yield (v := .pointer (some ⟨gx, 0, none⟩)) rfl (fun u _ => by go_simp) ?_
  simp only [Act.put, List.setIfInBounds_toArray, List.set_cons_succ, List.set_cons_zero]
  refine wpOrd_yield (v := .pointer (some ⟨d, 0, none⟩)) rfl (fun u hu => by have := hu.1; go_simp) ?_
  simp only [Act.put, List.setIfInBounds_toArray, List.set_cons_succ, List.set_cons_zero]
  refine wpOrd_yield (v := .pointer (some ⟨gx, 0, none⟩)) rfl (fun u _ => exec_mvP rfl rfl) ?_
  simp only [Act.put, List.setIfInBounds_toArray, List.set_cons_succ, List.set_cons_zero]
  refine wpOrd_yield (v := .pointer (some ⟨gx, 0, none⟩)) rfl (fun u _ => by go_simp) ?_
  simp only [Act.put, List.setIfInBounds_toArray, List.set_cons_succ, List.set_cons_zero]
  refine wpOrd_yield (v := .pointer (some ⟨gx, 1, none⟩)) rfl (fun u _ => by go_simp) ?_
  simp only [Act.put, List.setIfInBounds_toArray, List.set_cons_succ, List.set_cons_zero]
  refine wpOrd_yield (v := .pointer (some ⟨dr, 0, none⟩)) rfl (fun u hu => by have := hu.2.1; go_simp) ?_
  simp only [Act.put, List.setIfInBounds_toArray, List.set_cons_succ, List.set_cons_zero]
  clear x0 x1 x2 x3 e0 e1 e2 e3
  refine wpOrd_call rfl 22 _ _ rfl Try.call22 [.pointer (some ⟨d, 0, none⟩)] rfl ?_
  refine (pl_bar HP2.out (by omega)).mono ?_
  rintro e Y2 ⟨rfl, h4⟩
  refine ⟨_, rfl, h4.sts, ?_⟩
  simp only [Act.put, List.setIfInBounds_toArray, List.set_cons_succ, List.set_cons_zero]
  have HP4 : Hid (PlN w Y2 gx d dr n ca ga cb gb (barV t) u (i + 1) (bxP B #[.int .u8 6, .bool sc, .int .i64 A, .int .u16 F] 46 :: l)) := h4
  clear h4
  refine wpOrd_call rfl 23 _ _ rfl Try.call23 [.pointer (some ⟨dr, 0, none⟩)] rfl ?_
  refine (pl_rbar HP4.out hsm.out (by omega)).mono ?_
  rintro e Y4 ⟨rfl, h6⟩
  refine ⟨_, rfl, h6.sts, ?_⟩
  simp only [Act.put, List.setIfInBounds_toArray, List.set_cons_succ, List.set_cons_zero]
  have HF : Hid (∃ t' u', Mate t' n u' ∧ PlN w Y4 gx d dr n ca ga cb gb t' u' (i + 1) l) := ⟨_, _, HM.out.barrier HOk.out, h6.drop⟩
  have hE : brE u = barE t := HM.out.brE
  rw [hE]
  generalize barE t = q at *
  clear h6 HP HP2 HP4 HS hE
  refine wpOrd_yield (v := .bool true) rfl (fun u _ => by go_simp) ?_
  simp only [Act.put, List.setIfInBounds_toArray, List.set_cons_succ, List.set_cons_zero]
  refine wpOrd_yield (v := .bool true) rfl (fun u _ => by go_simp) ?_
  simp only [Act.put, List.setIfInBounds_toArray, List.set_cons_succ, List.set_cons_zero]
  refine wpOrd_nil ?_
  go_wp2
  go_ret
  exact ⟨rfl, HF.out⟩
set_option maxRecDepth 20000 in
set_option maxHeartbeats 4000000 in
theorem step_7 (h : PlN w W gx d dr n ca ga cb gb t u i l) (hM : Mate t n u) (hn : n ≤ 64) (hi : i < 1000000) (A F : Int) (sc : Bool) (hA : A ≤ 9223372036854775807) (hF : 0 ≤ F ∧ F < 65536) :
    Calls Try.prog 13 #[.pointer (some ⟨gx, 0, none⟩), .agg #[.int .u8 7, .bool sc, .int .i64 A, .int .u16 F]] W fun e W' => e = .returned (.bool true) ∧ ∃ t' u', Mate t' n u' ∧ PlN w W' gx d dr n ca ga cb gb t' u' (i + 1) l := by
  have HM : Hid (Mate t n u) := hM
  have HP : Hid (PlN w (W.alloc (.cells #[.int .u8 7, .bool sc, .int .i64 A, .int .u16 F] 46)) gx d dr n ca ga cb gb t u i (bxP W.heap.size #[.int .u8 7, .bool sc, .int .i64 A, .int .u16 F] 46 :: l)) := h.box _ _
  have HOk : Hid (Ok t) := h.ok
  have hsm : Hid (Small u) := hM.small h.cn (by omega) h.ok
  have hr : (W.alloc (.cells #[.int .u8 7, .bool sc, .int .i64 A, .int .u16 F] 46)).heap[W.heap.size]? = some (.cells #[.int .u8 7, .bool sc, .int .i64 A, .int .u16 F] 46) := HP.out.part
  have e0 : (W.alloc (.cells #[.int .u8 7, .bool sc, .int .i64 A, .int .u16 F] 46)).cell? ⟨W.heap.size, 0, none⟩ = some (.int .u8 7) := Joins.cell_of_block hr 0
  have e1 : (W.alloc (.cells #[.int .u8 7, .bool sc, .int .i64 A, .int .u16 F] 46)).cell? ⟨W.heap.size, 1, none⟩ = some (.bool sc) := Joins.cell_of_block hr 1
  have e2 : (W.alloc (.cells #[.int .u8 7, .bool sc, .int .i64 A, .int .u16 F] 46)).cell? ⟨W.heap.size, 2, none⟩ = some (.int .i64 A) := Joins.cell_of_block hr 2
  have e3 : (W.alloc (.cells #[.int .u8 7, .bool sc, .int .i64 A, .int .u16 F] 46)).cell? ⟨W.heap.size, 3, none⟩ = some (.int .u16 F) := Joins.cell_of_block hr 3
  obtain ⟨x0, x1, x2, x3⟩ := HP.out.c0
  clear h hM hr
  go_enter Try.func13, Try.ntmps13
  go_upto_region 1 with fail
  generalize W.alloc (.cells #[.int .u8 7, .bool sc, .int .i64 A, .int .u16 F] 46) = X at *
  generalize W.heap.size = B at *
  go_wp2
  have HP2 : Hid (PlN w X.drew gx d dr n ca ga cb gb t u i (bxP B #[.int .u8 7, .bool sc, .int .i64 A, .int .u16 F] 46 :: l)) := HP.out.later (Below.refl _ _).drew
  have HS : Hid (StS gx d dr B A F X.drew) := HP2.out.sts
  refine wp_region_ord (S := StS gx d dr B A F) [(0, true), (1, true), (2, true), (3, true), (4, true), (5, true), (6, false)] (by kernel_rfl) rfl (by kernel_rfl) (fun d _ _ _ _ h => by cases d <;> exact h) HS.out ?_
  simp only [inOrd, List.getElem?_cons_zero, List.getElem?_cons_succ]
  refine wpOrd_yield (v := .pointer (some ⟨gx, 0, none⟩)) rfl (fun u _ => exec_mvP rfl rfl) ?_
  simp only [Act.put, List.setIfInBounds_toArray, List.set_cons_succ, List.set_cons_zero]
  refine wpOrd_yield (v := .pointer (some ⟨gx, 0, none⟩)) rfl (fun u _ => by go_simp) ?_
  simp only [Act.put, List.setIfInBounds_toArray, List.set_cons_succ, List.set_cons_zero]
  refine wpOrd_yield (v := .pointer (some ⟨gx, 0, none⟩)) rfl (fun u _ => by go_simp) ?_
  simp only [Act.put, List.setIfInBounds_toArray, List.set_cons_succ, List.set_cons_zero]
  refine wpOrd_yield (v := .pointer (some ⟨d, 0, none⟩)) rfl (fun u hu => by have := hu.1; go_simp) ?_
  simp only [Act.put, List.setIfInBounds_toArray, List.set_cons_succ, List.set_cons_zero]
  refine wpOrd_yield (v := .pointer (some ⟨B, 2, none⟩)) rfl (fun u _ => by go_simp) ?_
  simp only [Act.put, List.setIfInBounds_toArray, List.set_cons_succ, List.set_cons_zero]
  refine wpOrd_yield (v := .int .i64 A) rfl (fun u hu => by have := hu.2.2.1; go_simp) ?_
  simp only [Act.put, List.setIfInBounds_toArray, List.set_cons_succ, List.set_cons_zero]
  clear x0 x1 x2 x3 e0 e1 e2 e3
  refine wpOrd_call rfl 20 _ _ rfl Try.call20 [.pointer (some ⟨d, 0, none⟩), .int .i64 A] rfl ?_
  refine (pl_fuse HP2.out A hA).mono ?_
  rintro e Y2 ⟨rfl, h4⟩
  refine ⟨_, rfl, h4.sts, ?_⟩
  simp only [Act.put, List.setIfInBounds_toArray, List.set_cons_succ, List.set_cons_zero]
  have HP4 : Hid (PlN w Y2 gx d dr n ca ga cb gb (fuseV t A) u i (bxP B #[.int .u8 7, .bool sc, .int .i64 A, .int .u16 F] 46 :: l)) := h4
  clear h4 HP HP2 HS
  refine wpOrd_nil ?_
  go_wp2
  have HP5 : Hid (PlN w Y2.drew gx d dr n ca ga cb gb (fuseV t A) u i (bxP B #[.int .u8 7, .bool sc, .int .i64 A, .int .u16 F] 46 :: l)) := HP4.out.later (Below.refl _ _).drew
  have HS : Hid (StS gx d dr B A F Y2.drew) := HP5.out.sts
  refine wp_region_ord (S := StS gx d dr B A F) [(0, true), (1, true), (2, true), (3, true), (4, true), (5, true), (6, false)] (by kernel_rfl) rfl (by kernel_rfl) (fun d _ _ _ _ h => by cases d <;> exact h) HS.out ?_
  simp only [inOrd, List.getElem?_cons_zero, List.getElem?_cons_succ]
  refine wpOrd_yield (v := .pointer (some ⟨gx, 0, none⟩)) rfl (fun u _ => exec_mvP rfl rfl) ?_
  simp only [Act.put, List.setIfInBounds_toArray, List.set_cons_succ, List.set_cons_zero]
  refine wpOrd_yield (v := .pointer (some ⟨gx, 0, none⟩)) rfl (fun u _ => by go_simp) ?_
  simp only [Act.put, List.setIfInBounds_toArray, List.set_cons_succ, List.set_cons_zero]
  refine wpOrd_yield (v := .pointer (some ⟨gx, 1, none⟩)) rfl (fun u _ => by go_simp) ?_
  simp only [Act.put, List.setIfInBounds_toArray, List.set_cons_succ, List.set_cons_zero]
  refine wpOrd_yield (v := .pointer (some ⟨dr, 0, none⟩)) rfl (fun u hu => by have := hu.2.1; go_simp) ?_
  simp only [Act.put, List.setIfInBounds_toArray, List.set_cons_succ, List.set_cons_zero]
  refine wpOrd_yield (v := .pointer (some ⟨B, 2, none⟩)) rfl (fun u _ => by go_simp) ?_
  simp only [Act.put, List.setIfInBounds_toArray, List.set_cons_succ, List.set_cons_zero]
  refine wpOrd_yield (v := .int .i64 A) rfl (fun u hu => by have := hu.2.2.1; go_simp) ?_
  simp only [Act.put, List.setIfInBounds_toArray, List.set_cons_succ, List.set_cons_zero]
  refine wpOrd_call rfl 21 _ _ rfl Try.call21 [.pointer (some ⟨dr, 0, none⟩), .int .i64 A] rfl ?_
  refine (pl_light HP5.out A).mono ?_
  rintro e Y4 ⟨rfl, h6⟩
  refine ⟨_, rfl, h6.sts, ?_⟩
  simp only [Act.put, List.setIfInBounds_toArray, List.set_cons_succ, List.set_cons_zero]
  have HF : Hid (∃ t' u', Mate t' n u' ∧ PlN w Y4 gx d dr n ca ga cb gb t' u' (i + 1) l) := ⟨_, _, HM.out.light A, h6.drop.more⟩
  clear h6 HP4 HP5 HS
  refine wpOrd_nil ?_
  go_wp2
  go_ret
  exact ⟨rfl, HF.out⟩
set_option maxRecDepth 20000 in
set_option maxHeartbeats 4000000 in
theorem step_8 (h : PlN w W gx d dr n ca ga cb gb t u i l) (hM : Mate t n u) (hn : n ≤ 64) (hi : i < 1000000) (A F : Int) (sc : Bool) (hA : A ≤ 9223372036854775807) (hF : 0 ≤ F ∧ F < 65536) :
    Calls Try.prog 13 #[.pointer (some ⟨gx, 0, none⟩), .agg #[.int .u8 8, .bool sc, .int .i64 A, .int .u16 F]] W fun e W' => e = .returned (.bool true) ∧ ∃ t' u', Mate t' n u' ∧ PlN w W' gx d dr n ca ga cb gb t' u' (i + 1) l := by
  have HM : Hid (Mate t n u) := hM
  have HP : Hid (PlN w (W.alloc (.cells #[.int .u8 8, .bool sc, .int .i64 A, .int .u16 F] 46)) gx d dr n ca ga cb gb t u i (bxP W.heap.size #[.int .u8 8, .bool sc, .int .i64 A, .int .u16 F] 46 :: l)) := h.box _ _
  have HOk : Hid (Ok t) := h.ok
  have hsm : Hid (Small u) := hM.small h.cn (by omega) h.ok
  have hr : (W.alloc (.cells #[.int .u8 8, .bool sc, .int .i64 A, .int .u16 F] 46)).heap[W.heap.size]? = some (.cells #[.int .u8 8, .bool sc, .int .i64 A, .int .u16 F] 46) := HP.out.part
  have e0 : (W.alloc (.cells #[.int .u8 8, .bool sc, .int .i64 A, .int .u16 F] 46)).cell? ⟨W.heap.size, 0, none⟩ = some (.int .u8 8) := Joins.cell_of_block hr 0
  have e1 : (W.alloc (.cells #[.int .u8 8, .bool sc, .int .i64 A, .int .u16 F] 46)).cell? ⟨W.heap.size, 1, none⟩ = some (.bool sc) := Joins.cell_of_block hr 1
  have e2 : (W.alloc (.cells #[.int .u8 8, .bool sc, .int .i64 A, .int .u16 F] 46)).cell? ⟨W.heap.size, 2, none⟩ = some (.int .i64 A) := Joins.cell_of_block hr 2
  have e3 : (W.alloc (.cells #[.int .u8 8, .bool sc, .int .i64 A, .int .u16 F] 46)).cell? ⟨W.heap.size, 3, none⟩ = some (.int .u16 F) := Joins.cell_of_block hr 3
  obtain ⟨x0, x1, x2, x3⟩ := HP.out.c0
  clear h hM hr
  go_enter Try.func13, Try.ntmps13
  go_upto_region 1 with fail
  generalize W.alloc (.cells #[.int .u8 8, .bool sc, .int .i64 A, .int .u16 F] 46) = X at *
  generalize W.heap.size = B at *
  go_wp2_with (first | (go_at_call 33; fail))
  refine (pl_rcrash HP.out (by omega)).mono ?_
  rintro e Y1 ⟨rfl, h4⟩
  have HP4 : Hid _ := h4
  have z0 := h4.c0.1
  clear h4 HP x0 x1 x2 x3 e0 e1 e2 e3
  go_wp2_with (first | (go_at_call 32; fail))
  refine (pl_crash HP4.out (by omega)).mono ?_
  rintro e Y2 ⟨rfl, h6⟩
  have HF : Hid (∃ t' u', Mate t' n u' ∧ PlN w Y2 gx d dr n ca ga cb gb t' u' (i + 1) l) := ⟨_, _, HM.out.crash, h6.drop.more⟩
  clear h6 HP4 z0
  go_wp2
  go_ret
  exact ⟨rfl, HF.out⟩
set_option maxRecDepth 20000 in
set_option maxHeartbeats 4000000 in
theorem step_k0 (h : PlN w W gx d dr n ca ga cb gb t u i l) (hM : Mate t n u) (hn : n ≤ 64) (hi : i < 1000000) (o : Int) (n5 : ¬ o = 5) (n6 : ¬ o = 6) (n7 : ¬ o = 7) (n8 : ¬ o = 8) (A F : Int) (hA : A ≤ 9223372036854775807) (hF : 0 ≤ F ∧ F < 65536) :
    Calls Try.prog 13 #[.pointer (some ⟨gx, 0, none⟩), .agg #[.int .u8 o, .bool false, .int .i64 A, .int .u16 F]] W fun e W' => e = .returned (.bool true) ∧ ∃ t' u', Mate t' n u' ∧ PlN w W' gx d dr n ca ga cb gb t' u' (i + 1) l := by
  have HM : Hid (Mate t n u) := hM
  have HP : Hid (PlN w (W.alloc (.cells #[.int .u8 o, .bool false, .int .i64 A, .int .u16 F] 46)) gx d dr n ca ga cb gb t u i (bxP W.heap.size #[.int .u8 o, .bool false, .int .i64 A, .int .u16 F] 46 :: l)) := h.box _ _
  have HOk : Hid (Ok t) := h.ok
  have hsm : Hid (Small u) := hM.small h.cn (by omega) h.ok
  have hr : (W.alloc (.cells #[.int .u8 o, .bool false, .int .i64 A, .int .u16 F] 46)).heap[W.heap.size]? = some (.cells #[.int .u8 o, .bool false, .int .i64 A, .int .u16 F] 46) := HP.out.part
  have e0 : (W.alloc (.cells #[.int .u8 o, .bool false, .int .i64 A, .int .u16 F] 46)).cell? ⟨W.heap.size, 0, none⟩ = some (.int .u8 o) := Joins.cell_of_block hr 0
  have e1 : (W.alloc (.cells #[.int .u8 o, .bool false, .int .i64 A, .int .u16 F] 46)).cell? ⟨W.heap.size, 1, none⟩ = some (.bool false) := Joins.cell_of_block hr 1
  have e2 : (W.alloc (.cells #[.int .u8 o, .bool false, .int .i64 A, .int .u16 F] 46)).cell? ⟨W.heap.size, 2, none⟩ = some (.int .i64 A) := Joins.cell_of_block hr 2
  have e3 : (W.alloc (.cells #[.int .u8 o, .bool false, .int .i64 A, .int .u16 F] 46)).cell? ⟨W.heap.size, 3, none⟩ = some (.int .u16 F) := Joins.cell_of_block hr 3
  obtain ⟨x0, x1, x2, x3⟩ := HP.out.c0
  clear h hM hr
  go_enter Try.func13, Try.ntmps13
  go_upto_region 1 with fail
  generalize W.alloc (.cells #[.int .u8 o, .bool false, .int .i64 A, .int .u16 F] 46) = X at *
  generalize W.heap.size = B at *
  have b5 : (o == 5) = false := beq_eq_false_iff_ne.2 n5
  have b6 : (o == 6) = false := beq_eq_false_iff_ne.2 n6
  have b7 : (o == 7) = false := beq_eq_false_iff_ne.2 n7
  have b8 : (o == 8) = false := beq_eq_false_iff_ne.2 n8
  clear n5 n6 n7 n8
  rcases HP.out.first with hq | ⟨c, hq⟩
  · rw [hq] at x2
    have HF : Hid (∃ t' u', Mate t' n u' ∧ PlN w X gx d dr n ca ga cb gb t' u' (i + 1) l) := ⟨_, _, HM.out, HP.out.drop.more⟩
    clear HP hq
    go_wp2
    go_ret
    exact ⟨rfl, HF.out⟩
  · have hne : ¬ ca = .pointer none := by rw [hq]; intro q; injection q with q; cases q
    have hc := HP.out.ask HM.out hne hi (.bool false) o A F hF
    rw [hq] at x2
    clear hne
    go_wp2_with (first | (go_at_call 14; fail))
    refine hc.mono ?_
    rintro e Y ⟨rfl, t', u', hm, h6⟩
    have HF : Hid (∃ t' u', Mate t' n u' ∧ PlN w Y gx d dr n ca ga cb gb t' u' (i + 1) l) := ⟨t', u', hm, h6.drop⟩
    clear h6 hm HP hc
    go_wp2
    go_ret
    exact ⟨rfl, HF.out⟩
set_option maxRecDepth 20000 in
set_option maxHeartbeats 4000000 in
theorem step_k1 (h : PlN w W gx d dr n ca ga cb gb t u i l) (hM : Mate t n u) (hn : n ≤ 64) (hi : i < 1000000) (o : Int) (n5 : ¬ o = 5) (n6 : ¬ o = 6) (n7 : ¬ o = 7) (n8 : ¬ o = 8) (A F : Int) (hA : A ≤ 9223372036854775807) (hF : 0 ≤ F ∧ F < 65536) :
    Calls Try.prog 13 #[.pointer (some ⟨gx, 0, none⟩), .agg #[.int .u8 o, .bool true, .int .i64 A, .int .u16 F]] W fun e W' => e = .returned (.bool true) ∧ ∃ t' u', Mate t' n u' ∧ PlN w W' gx d dr n ca ga cb gb t' u' (i + 1) l := by
  have HM : Hid (Mate t n u) := hM
  have HP : Hid (PlN w (W.alloc (.cells #[.int .u8 o, .bool true, .int .i64 A, .int .u16 F] 46)) gx d dr n ca ga cb gb t u i (bxP W.heap.size #[.int .u8 o, .bool true, .int .i64 A, .int .u16 F] 46 :: l)) := h.box _ _
  have HOk : Hid (Ok t) := h.ok
  have hsm : Hid (Small u) := hM.small h.cn (by omega) h.ok
  have hr : (W.alloc (.cells #[.int .u8 o, .bool true, .int .i64 A, .int .u16 F] 46)).heap[W.heap.size]? = some (.cells #[.int .u8 o, .bool true, .int .i64 A, .int .u16 F] 46) := HP.out.part
  have e0 : (W.alloc (.cells #[.int .u8 o, .bool true, .int .i64 A, .int .u16 F] 46)).cell? ⟨W.heap.size, 0, none⟩ = some (.int .u8 o) := Joins.cell_of_block hr 0
  have e1 : (W.alloc (.cells #[.int .u8 o, .bool true, .int .i64 A, .int .u16 F] 46)).cell? ⟨W.heap.size, 1, none⟩ = some (.bool true) := Joins.cell_of_block hr 1
  have e2 : (W.alloc (.cells #[.int .u8 o, .bool true, .int .i64 A, .int .u16 F] 46)).cell? ⟨W.heap.size, 2, none⟩ = some (.int .i64 A) := Joins.cell_of_block hr 2
  have e3 : (W.alloc (.cells #[.int .u8 o, .bool true, .int .i64 A, .int .u16 F] 46)).cell? ⟨W.heap.size, 3, none⟩ = some (.int .u16 F) := Joins.cell_of_block hr 3
  obtain ⟨x0, x1, x2, x3⟩ := HP.out.c0
  clear h hM hr
  go_enter Try.func13, Try.ntmps13
  go_upto_region 1 with fail
  generalize W.alloc (.cells #[.int .u8 o, .bool true, .int .i64 A, .int .u16 F] 46) = X at *
  generalize W.heap.size = B at *
  have b5 : (o == 5) = false := beq_eq_false_iff_ne.2 n5
  have b6 : (o == 6) = false := beq_eq_false_iff_ne.2 n6
  have b7 : (o == 7) = false := beq_eq_false_iff_ne.2 n7
  have b8 : (o == 8) = false := beq_eq_false_iff_ne.2 n8
  clear n5 n6 n7 n8
  rcases HP.out.second with hq | ⟨c, hq⟩
  · rw [hq] at x3
    have HF : Hid (∃ t' u', Mate t' n u' ∧ PlN w X gx d dr n ca ga cb gb t' u' (i + 1) l) := ⟨_, _, HM.out, HP.out.drop.more⟩
    clear HP hq
    go_wp2
    go_ret
    exact ⟨rfl, HF.out⟩
  · have hne : ¬ cb = .pointer none := by rw [hq]; intro q; injection q with q; cases q
    have hc := HP.out.ask1 HM.out hne hi (.bool true) o A F hF
    rw [hq] at x3
    clear hne
    go_wp2_with (first | (go_at_call 14; fail))
    refine hc.mono ?_
    rintro e Y ⟨rfl, t', u', hm, h6⟩
    have HF : Hid (∃ t' u', Mate t' n u' ∧ PlN w Y gx d dr n ca ga cb gb t' u' (i + 1) l) := ⟨t', u', hm, h6.drop⟩
    clear h6 hm HP hc
    go_wp2
    go_ret
    exact ⟨rfl, HF.out⟩
/-- Any step. -/
theorem play_step (h : PlN w W gx d dr n ca ga cb gb t u i l) (hM : Mate t n u) (hn : n ≤ 64) (hi : i < 1000000) (o A F : Int) (sc : Bool) (hA : A ≤ 9223372036854775807) (hF : 0 ≤ F ∧ F < 65536) :
    Calls Try.prog 13 #[.pointer (some ⟨gx, 0, none⟩), .agg #[.int .u8 o, .bool sc, .int .i64 A, .int .u16 F]] W fun e W' => e = .returned (.bool true) ∧ ∃ t' u', Mate t' n u' ∧ PlN w W' gx d dr n ca ga cb gb t' u' (i + 1) l := by
  by_cases n5 : o = 5
  · subst n5; exact step_5 h hM hn hi A F sc hA hF
  by_cases n6 : o = 6
  · subst n6; exact step_6 h hM hn hi A F sc hA hF
  by_cases n7 : o = 7
  · subst n7; exact step_7 h hM hn hi A F sc hA hF
  by_cases n8 : o = 8
  · subst n8; exact step_8 h hM hn hi A F sc hA hF
  cases sc
  · exact step_k0 h hM hn hi o n5 n6 n7 n8 A F hA hF
  · exact step_k1 h hM hn hi o n5 n6 n7 n8 A F hA hF
end
end Go.Proofs.Ytencclpcebpgmaa
/- The lists that were told are looked at: what lies beside them stays; no condition. -/
namespace Go.Proofs.Ytencclpcebpgmaa
open Go.RowKit Go.Maps
/-- The lists that were told are looked at. -/
theorem sep_stillK {w W : World} {l : List Part} {v v2 : Value} {T T2 : List (Tl Int)} (h : Sep w W (bkP enW 3 54 1 v T :: bkP enW 3 54 1 v2 T2 :: l)) (hT : T.map (·.l) = T2.map (·.l)) (hn : T.length ≤ 8000000) (he : ∀ x ∈ T, x.l.length ≤ 10000000) :
    Calls Try.prog 18 #[v, v2] W fun e W' => e = .returned (.bool true) ∧ Below w.heap.size w W' ∧ ∀ k, k < W.heap.size → ¬ bkO v T k → W'.heap[k]? = W.heap[k]? := by
  have hB : Bk enW 3 54 1 v T W := h.head
  have hB2 : Bk enW 3 54 1 v2 T2 W := h.drop.head
  have hl2 : T2.length = T.length := by have := congrArg List.length hT; simpa using this.symm
  by_cases h0 : 0 < T.length
  · obtain ⟨gl, c, ps, ns, cs, fs, rfl, h1, h2, h3, h4, h5⟩ := bk_lsts (by decide) hB h0 he
    obtain ⟨gw, c2, hv2, _, _⟩ := bk_row hB2 (List.getElem?_eq_getElem (show 0 < T2.length by omega))
    have key : ∀ k, ∃ x : Tl Int, k < T.length → T2[k]? = some x ∧ fs k = x.l := fun k => by
      by_cases hk : k < T.length
      · have e2 : T2[k]? = some T2[k] := List.getElem?_eq_getElem (by omega)
        have e1 : T[k]? = some T[k] := List.getElem?_eq_getElem hk
        refine ⟨T2[k], fun _ => ⟨e2, (h5 k _ e1).trans ?_⟩⟩
        have := congrArg (·[k]?) hT
        simp only [List.getElem?_map, e1, e2, Option.map_some] at this
        injection this
      · exact ⟨⟨none, 0, []⟩, fun q => absurd q hk⟩
    obtain ⟨f2, hf2⟩ := Classical.skolem.1 key
    have hw : ∀ k, k < T.length → W.cell? ⟨gw, k, none⟩ = some (.slice (f2 k).p (ns k) (f2 k).c) ∧ IntsAt W (f2 k).p (fs k) := fun k hk => by
      obtain ⟨e1, e2⟩ := hf2 k hk
      obtain ⟨gw', c2', q, _, hc⟩ := bk_row hB2 e1
      rw [hv2] at q
      injection q with q1
      injection q1 with q1
      injection q1 with q1
      subst q1
      have hlen : (f2 k).l.length = ns k := by rw [← e2]; exact (h1 k hk).1
      refine ⟨by rw [hc]; show some (Value.slice (f2 k).p (f2 k).l.length (f2 k).c) = _; rw [hlen], ?_⟩
      have ho := hB2.own _ (List.mem_of_getElem? e1)
      rw [flat_int] at ho
      obtain ⟨p', c', q, h6, _⟩ := ints_of_row ho
      injection q with q1 q2 q3
      rw [e2, show (f2 k).p = p' from q1]
      exact h6
    rw [hv2, hl2]
    refine (still_any T.length gl gw ps (fun k => (f2 k).p) ns cs (fun k => (f2 k).c) W fs h0 (by omega) c c2 h1 h2 h3 hw).mono ?_
    rintro e W' ⟨he, hF⟩
    exact ⟨he, h.below.trans (hF.below (fun i hi => (h.headLt (k := i) (h4 i hi)).1) h.below.size), fun k hk hn => hF.block k hk fun q => hn (h4 k q)⟩
  · obtain ⟨p, c, hv, _⟩ := own_slice hB.row
    obtain ⟨p2, c2, hv2, _⟩ := own_slice hB2.row
    rw [show T.length = 0 by omega] at hv
    rw [show T2.length = 0 by omega] at hv2
    rw [hv, hv2]
    refine (still_none c c2 p p2 W).mono ?_
    rintro e W' ⟨he, rfl⟩
    exact ⟨he, h.below, fun _ _ _ => rfl⟩
end Go.Proofs.Ytencclpcebpgmaa
/- Two caches of one disk as they are made, laid into the law's row, and told in the end; no condition but the counts' bounds. -/
namespace Go.Proofs.Ytencclpcebpgmaa
open Go.RowKit Go.Maps
theorem pl_begin {w W : World} {L : Loc} {R : RL} {t : St} {u : RD} {n : Nat} (hD : DiskAt W L t) (hR : RDk W R n u) (hL : L.from w.heap.size) (hRL : ∀ k, R.has k → w.heap.size ≤ k ∧ ¬ L.has k) (hb : Below w.heap.size w W) : Sep w W [dP L t, rdP R n u] := by
  refine ⟨?_, ?_, ?_, ?_, hb⟩
  · intro p hp
    rcases List.mem_cons.1 hp with rfl | hp
    · exact dP_good _ _
    · rcases List.mem_cons.1 hp with rfl | hp
      · exact rdP_good _ _ _
      · simp at hp
  · intro p hp
    rcases List.mem_cons.1 hp with rfl | hp
    · exact hD
    · rcases List.mem_cons.1 hp with rfl | hp
      · exact hR
      · simp at hp
  · intro p hp k hk
    rcases List.mem_cons.1 hp with rfl | hp
    · exact ⟨hL k hk, hD.lt k hk⟩
    · rcases List.mem_cons.1 hp with rfl | hp
      · exact ⟨(hRL k hk).1, hR.lt hk⟩
      · simp at hp
  · refine List.pairwise_cons.2 ⟨fun q hq k hk hk2 => ?_, List.pairwise_cons.2 ⟨fun q hq => by simp at hq, List.Pairwise.nil⟩⟩
    rcases List.mem_cons.1 hq with rfl | hq
    · exact (hRL k hk2).2 hk
    · simp at hq
theorem bk_nilP (W : World) : Bk enW 3 54 1 (.slice none 0 0) ([] : List (Tl Int)) W := ⟨World.ownsRow_nil _ _ 54 1, by simp, by simp⟩
theorem pl_fresh {w W : World} {L : Loc} {R : RL} {t : St} {u : RD} {n : Nat} (h : Sep w W [dP L t, rdP R n u]) (hC : Cn t 0) :
    PlN w (W.alloc (.cells (xRo L.d R.g (.pointer none) (.pointer none) (.pointer none) (.pointer none) (.slice none 0 0) (.slice none 0 0)) 36)) W.heap.size L.d R.g n (.pointer none) (.pointer none) (.pointer none) (.pointer none) t u 0 [] := by
  have h1 := sep_box h.swap (xRo L.d R.g (.pointer none) (.pointer none) (.pointer none) (.pointer none) (.slice none 0 0) (.slice none 0 0)) 36
  have ho : ∀ k, bkO (.slice none 0 0) ([] : List (Tl Int)) k → False := fun k hk => by
    rcases hk with q | ⟨x, hx, _⟩
    · simp [Value.ownBlock] at q
    · simp at hx
  have h2 := h1.add (p := bkP enW 3 54 1 (.slice none 0 0) []) (Below.refl _ _) bkP_good (bk_nilP _) fun k q => (ho k q).elim
  have h3 := h2.add (p := bkP enW 3 54 1 (.slice none 0 0) []) (Below.refl _ _) bkP_good (bk_nilP _) fun k q => (ho k q).elim
  have h4 := h3.perm (List.reverse_perm _).symm
  exact ⟨L, R, none, none, _, _, [], [], rfl, rfl, ⟨rfl, rfl⟩, ⟨rfl, rfl⟩, trivial, trivial, hC, ⟨rfl, Nat.le_refl _, by simp⟩, h4⟩
section
variable {w W W' : World} {gx d dr n : Nat} {ca ga cb gb : Value} {t : St} {u : RD} {i : Nat} {l : List Part}
theorem PlN.newP (h : PlN w W gx d dr n ca ga cb gb t u i l) {size : Int} (hs : 1 ≤ size ∧ size ≤ 4096) : Calls Try.prog 11 #[.pointer (some ⟨d, 0, none⟩), .int .i64 size] W fun e W' => ∃ K : KLoc, e = .returned (.tuple #[.pointer (some ⟨K.c, 0, none⟩), .int .i64 0]) ∧ K.d = d ∧ PlN w W' gx d dr n ca ga cb gb t u i (kP K (newC size) :: l) := by
  obtain ⟨L, R, a, b, vl, vk, T1, T2, h1, h2, h3, h4, h5, h6, h7, h8, h9⟩ := h
  subst h1
  refine (newC_ok h9.head hs).mono ?_
  rintro e W' ⟨he, hC, hb⟩
  refine ⟨newK W L.d, he, rfl, L, R, a, b, vl, vk, T1, T2, rfl, h2, h3, h4, h5, h6, h7, h8, ?_⟩
  have hKh : ∀ k, (newK W L.d).has k → W.heap.size ≤ k := fun k hk => by
    rcases hk with q | q | q | q
    · have : k = W.heap.size + 2 := q; omega
    · have : k = W.heap.size + 1 := q; omega
    · have : k = W.heap.size := q; omega
    · simp [newK] at q
  exact (h9.add (p := kP (newK W L.d) (newC size)) hb (kP_good _ _) hC fun k hk => ⟨hKh k hk, hC.lt k hk⟩).perm app3
theorem PlN.newR (h : PlN w W gx d dr n ca ga cb gb t u i l) {size : Int} (hs : 1 ≤ size ∧ size ≤ 4096) : Calls Try.prog 12 #[.pointer (some ⟨dr, 0, none⟩), .int .i64 size] W fun e W' => ∃ g, e = .returned (.tuple #[.pointer (some ⟨g, 0, none⟩), .int .i64 0]) ∧ PlN w W' gx d dr n ca ga cb gb t u i (rkP g dr (.slice none 0 0) (newC size) :: l) := by
  obtain ⟨L, R, a, b, vl, vk, T1, T2, h1, h2, h3, h4, h5, h6, h7, h8, h9⟩ := h
  refine (new6_ok size hs).mono ?_
  rintro e W' ⟨he, hC, hb⟩
  refine ⟨W.heap.size, he, L, R, a, b, vl, vk, T1, T2, h1, h2, h3, h4, h5, h6, h7, h8, ?_⟩
  refine (h9.add (p := rkP W.heap.size dr (.slice none 0 0) (newC size)) hb (rkP_good _ _ _ _) hC fun k hk => ?_).perm app3
  rcases hk with q | q
  · subst q; exact ⟨Nat.le_refl _, RCk.lt hC (.inl rfl)⟩
  · simp [Value.ownBlock] at q
theorem PlN.newN (h : PlN w W gx d dr n ca ga cb gb t u i l) {size : Int} (hs : ¬ (1 ≤ size ∧ size ≤ 4096)) : Calls Try.prog 11 #[.pointer (some ⟨d, 0, none⟩), .int .i64 size] W fun e W' => e = .returned (.tuple #[.pointer none, .int .i64 2]) ∧ W' = W := by
  obtain ⟨L, R, a, b, vl, vk, T1, T2, h1, h2, h3, h4, h5, h6, h7, h8, h9⟩ := h
  subst h1
  exact newC_bad h9.head (by omega)
theorem two_back {p1 p2 p3 p4 p5 x y : Part} {B l : List Part} : (p1 :: p2 :: p3 :: p4 :: p5 :: (B ++ (x :: y :: l))).Perm (p1 :: p2 :: p3 :: p4 :: p5 :: y :: x :: (B ++ l)) :=
  (List.Perm.append_left [p1, p2, p3, p4, p5] (List.perm_append_comm_assoc B [x, y] l)).trans (List.Perm.cons _ (List.Perm.cons _ (List.Perm.cons _ (List.Perm.cons _ (List.Perm.cons _ (List.Perm.swap _ _ _))))))
theorem PlN.put0 {K : KLoc} {g : Nat} {v : Value} {s : CSt} (h : PlN w W gx d dr n (.pointer none) (.pointer none) cb gb t u i (rkP g dr v s :: kP K s :: l)) (hd : K.d = d) :
    PlN w ((W.setCell ⟨gx, 2, none⟩ (.pointer (some ⟨K.c, 0, none⟩))).setCell ⟨gx, 4, none⟩ (.pointer (some ⟨g, 0, none⟩))) gx d dr n (.pointer (some ⟨K.c, 0, none⟩)) (.pointer (some ⟨g, 0, none⟩)) cb gb t u i l := by
  obtain ⟨L, R, a, b, vl, vk, T1, T2, h1, h2, h3, h4, h5, h6, h7, h8, h9⟩ := h
  cases a with
  | some x => exact absurd h3.1 (by intro q; simp [cc, ptr] at q)
  | none =>
    have y2 := (sep_setBox (sep_setBox h9.third 2 (.pointer (some ⟨K.c, 0, none⟩))) 4 (.pointer (some ⟨g, 0, none⟩))).back
    exact ⟨L, R, some ⟨K, g, v, s⟩, b, vl, vk, T1, T2, h1, h2, ⟨rfl, rfl⟩, h4, hd, h6, h7, h8, y2.perm two_back⟩
theorem PlN.put1 {K : KLoc} {g : Nat} {v : Value} {s : CSt} (h : PlN w W gx d dr n ca ga (.pointer none) (.pointer none) t u i (rkP g dr v s :: kP K s :: l)) (hd : K.d = d) :
    PlN w ((W.setCell ⟨gx, 3, none⟩ (.pointer (some ⟨K.c, 0, none⟩))).setCell ⟨gx, 5, none⟩ (.pointer (some ⟨g, 0, none⟩))) gx d dr n ca ga (.pointer (some ⟨K.c, 0, none⟩)) (.pointer (some ⟨g, 0, none⟩)) t u i l := by
  obtain ⟨L, R, a, b, vl, vk, T1, T2, h1, h2, h3, h4, h5, h6, h7, h8, h9⟩ := h
  cases b with
  | some x => exact absurd h4.1 (by intro q; simp [cc, ptr] at q)
  | none =>
    have y2 := (sep_setBox (sep_setBox h9.third 3 (.pointer (some ⟨K.c, 0, none⟩))) 5 (.pointer (some ⟨g, 0, none⟩))).back
    refine ⟨L, R, a, some ⟨K, g, v, s⟩, vl, vk, T1, T2, h1, h2, h3, ⟨rfl, rfl⟩, h5, hd, h7, h8, y2.perm ?_⟩
    exact List.Perm.append_left [_, _, _, _, _] (List.Perm.append_left (cps dr a) (List.Perm.swap _ _ _))
theorem PlN.nil0 (h : PlN w W gx d dr n (.pointer none) (.pointer none) cb gb t u i l) :
    PlN w ((W.setCell ⟨gx, 2, none⟩ (.pointer none)).setCell ⟨gx, 4, none⟩ (.pointer none)) gx d dr n (.pointer none) (.pointer none) cb gb t u i l := by
  obtain ⟨L, R, a, b, vl, vk, T1, T2, h1, h2, h3, h4, h5, h6, h7, h8, h9⟩ := h
  exact ⟨L, R, a, b, vl, vk, T1, T2, h1, h2, h3, h4, h5, h6, h7, h8, (sep_setBox (sep_setBox h9.third 2 (.pointer none)) 4 (.pointer none)).back⟩
theorem PlN.nil1 (h : PlN w W gx d dr n ca ga (.pointer none) (.pointer none) t u i l) :
    PlN w ((W.setCell ⟨gx, 3, none⟩ (.pointer none)).setCell ⟨gx, 5, none⟩ (.pointer none)) gx d dr n ca ga (.pointer none) (.pointer none) t u i l := by
  obtain ⟨L, R, a, b, vl, vk, T1, T2, h1, h2, h3, h4, h5, h6, h7, h8, h9⟩ := h
  exact ⟨L, R, a, b, vl, vk, T1, T2, h1, h2, h3, h4, h5, h6, h7, h8, (sep_setBox (sep_setBox h9.third 3 (.pointer none)) 5 (.pointer none)).back⟩
theorem PlN.reads (h : PlN w W gx d dr n ca ga cb gb t u i l) : Calls Try.prog 15 #[.pointer (some ⟨d, 0, none⟩)] W fun e W' => e = .returned (.int .i64 t.reads) ∧ W' = W := by
  obtain ⟨L, R, a, b, vl, vk, T1, T2, rfl, h2, h3, h4, h5, h6, h7, h8, h9⟩ := h
  exact reads_of h9.head
theorem PlN.made (h : PlN w W gx d dr n ca ga cb gb t u i l) : Calls Try.prog 16 #[.pointer (some ⟨d, 0, none⟩)] W fun e W' => e = .returned (.int .i64 t.made) ∧ W' = W := by
  obtain ⟨L, R, a, b, vl, vk, T1, T2, rfl, h2, h3, h4, h5, h6, h7, h8, h9⟩ := h
  exact made_of h9.head
theorem PlN.stopped (h : PlN w W gx d dr n ca ga cb gb t u i l) : Calls Try.prog 17 #[.pointer (some ⟨d, 0, none⟩)] W fun e W' => e = .returned (.bool t.stopped) ∧ W' = W := by
  obtain ⟨L, R, a, b, vl, vk, T1, T2, rfl, h2, h3, h4, h5, h6, h7, h8, h9⟩ := h
  exact stopped_of h9.head
/-- What the law's last region reads. -/
def EnS (gx dr : Nat) (u : RD) (vl vk : Value) (V : World) : Prop := V.cell? ⟨gx, 6, none⟩ = some vl ∧ V.cell? ⟨gx, 7, none⟩ = some vk ∧ V.cell? ⟨dr, 3, none⟩ = some (.bool u.stopped) ∧ V.cell? ⟨dr, 4, none⟩ = some (.int .i64 u.reads) ∧ V.cell? ⟨dr, 5, none⟩ = some (.int .i64 u.made)
theorem PlN.last (h : PlN w W gx d dr n ca ga cb gb t u i l) (hi : i ≤ 1000000) : ∃ vl vk, EnS gx dr u vl vk W ∧ Calls Try.prog 18 #[vl, vk] W fun e W' => e = .returned (.bool true) ∧ Below w.heap.size w W' ∧ EnS gx dr u vl vk W' := by
  obtain ⟨L, R, a, b, vl, vk, T1, T2, h1, h2, h3, h4, h5, h6, h7, h8, h9⟩ := h
  subst h2
  have hx : W.heap[gx]? = some (.cells (xRo d R.g ca cb ga gb vl vk) 36) := h9.drop.drop.head
  have hr : W.heap[R.g]? = some (.cells (rd6 R n u) 51) := RDk.row h9.drop.head
  have n1 : ¬ bkO vl T1 gx := (List.pairwise_cons.1 h9.drop.drop.apart).1 (bkP enW 3 54 1 vl T1) (by simp) gx rfl
  have n2 : ¬ bkO vl T1 R.g := (List.pairwise_cons.1 h9.drop.apart).1 (bkP enW 3 54 1 vl T1) (by simp) R.g (.inl rfl)
  have mk : ∀ V : World, V.heap[gx]? = some (.cells (xRo d R.g ca cb ga gb vl vk) 36) → V.heap[R.g]? = some (.cells (rd6 R n u) 51) → EnS gx R.g u vl vk V := fun V q1 q2 => ⟨Joins.cell_of_block q1 6, Joins.cell_of_block q1 7, Joins.cell_of_block q2 3, Joins.cell_of_block q2 4, Joins.cell_of_block q2 5⟩
  refine ⟨vl, vk, mk W hx hr, (sep_stillK h9.drop.drop.drop h8.same (by have := h8.len; omega) fun x hx => by have := h8.each x hx; omega).mono ?_⟩
  rintro e W' ⟨q1, q2, q3⟩
  exact ⟨q1, q2, mk W' ((q3 gx (h9.drop.drop.headLt (k := gx) rfl).2 n1).trans hx) ((q3 R.g (h9.drop.headLt (k := R.g) (.inl rfl)).2 n2).trans hr)⟩
end
end Go.Proofs.Ytencclpcebpgmaa
/- A number modulo another; rows of blocks that are only read; no condition. -/
namespace Go.Proofs.Ytencclpcebpgmaa
open Go.RowKit Go.Maps

abbrev I64 (x : Int) : Prop := -9223372036854775808 ≤ x ∧ x ≤ 9223372036854775807
theorem place_any (x n : Int) (hx : I64 x) (hn : 0 < n ∧ n ≤ 4096) (w : World) : Calls Try.prog 36 #[.int .i64 x, .int .i64 n] w fun e w' => e = .returned (.int .i64 (x % n)) ∧ w' = w := by
  have hne : n ≠ 0 := by omega
  have h1 := Int.emod_nonneg x hne
  have h2 := Int.emod_lt_of_pos x hn.1
  have hd := Int.tmod_add_mul_tdiv x n
  have hT : (x.tmod n < 0 → x % n = x.tmod n + n) ∧ (¬ x.tmod n < 0 → x % n = x.tmod n) ∧ -4096 ≤ x.tmod n ∧ x.tmod n ≤ 4096 := by
    by_cases hx0 : 0 ≤ x
    · rw [Int.tmod_eq_emod_of_nonneg hx0]
      exact ⟨fun h => by omega, fun _ => rfl, by omega, by omega⟩
    · have e1 : x.tmod n = -((-x) % n) := by
        rw [← Int.tmod_eq_emod_of_nonneg (by omega : 0 ≤ -x), Int.neg_tmod]
        omega
      have e2 := Int.emod_nonneg (-x) hne
      have e3 := Int.emod_lt_of_pos (-x) hn.1
      have e4 : x % n = if (-x) % n = 0 then 0 else n - (-x) % n := by
        have h5 := Int.emod_add_mul_ediv (-x) n
        split
        · next h =>
          rw [h] at h5
          have : x = n * (-((-x) / n)) := by
            rw [Int.mul_neg]
            omega
          rw [this, Int.mul_emod_right]
        · next h =>
          have : x = (n - (-x) % n) + n * (-((-x) / n) - 1) := by
            rw [Int.mul_sub, Int.mul_neg, Int.mul_one]
            omega
          rw [this, Int.add_mul_emod_self_left]
          rw [Int.emod_eq_of_lt (by omega) (by omega)]
          rw [← this]
      rw [e1, e4]
      refine ⟨fun h => ?_, fun h => ?_, by omega, by omega⟩
      · rw [if_neg (by omega)]; omega
      · rw [if_pos (by omega)]; omega
  obtain ⟨t1, t2, t3, t4⟩ := hT
  have hw : IntKind.i64.wrap (x.tmod n) = x.tmod n := by rw [IntKind.wrap_i64]; omega
  have hw2 : IntKind.i64.wrap (x.tmod n + n) = x.tmod n + n := by rw [IntKind.wrap_i64]; omega
  clear hd
  by_cases h0 : x.tmod n < 0
  · rw [t1 h0]
    clear t1 t2
    go_enter Try.func36, Try.ntmps36
    go_wp2
    go_ret
    exact ⟨rfl, rfl⟩
  · rw [t2 h0]
    clear t1 t2
    go_enter Try.func36, Try.ntmps36
    go_wp2
    go_ret
    exact ⟨rfl, rfl⟩
def rowP (ps : List Int) : List Hld := ps.map fun p => ⟨p, false, nought⟩
theorem rowP_fast (ps : List Int) : fastN (rowP ps) = 0 := by
  unfold fastN rowP
  rw [List.countP_eq_zero]
  intro x hx
  obtain ⟨p, _, rfl⟩ := List.mem_map.1 hx
  simp
theorem rowP_ord (ps : List Int) : ordV (rowP ps) = ps := by
  unfold ordV rowP
  rw [List.map_map]
  exact List.map_id' _
theorem rowP_len (ps : List Int) : (rowP ps).length = ps.length := by simp [rowP]
theorem rowP_snoc (ps : List Int) (k : Int) : rowP ps ++ [⟨k, false, nought⟩] = rowP (ps ++ [k]) := by simp [rowP]
theorem rowP_none {k : Int} : ∀ {ps : List Int}, k ∉ ps → atR (rowP ps) k = none := by
  intro ps h
  unfold atR
  rw [List.find?_eq_none]
  intro x hx
  obtain ⟨p, hp, rfl⟩ := List.mem_map.1 hx
  intro e
  have : p = k := by simpa using e
  exact h (this ▸ hp)
theorem rowP_some {k : Int} : ∀ {ps : List Int}, k ∈ ps → atR (rowP ps) k = some ⟨k, false, nought⟩
  | [], h => by simp at h
  | p :: t, h => by
    by_cases e : p = k
    · subst e
      simp [atR, rowP]
    · have h' : k ∈ t := by
        rcases List.mem_cons.1 h with h | h
        · exact absurd h.symm e
        · exact h
      have := rowP_some h'
      unfold atR rowP at this ⊢
      rw [List.map_cons, List.find?_cons]
      have e2 : ((⟨p, false, nought⟩ : Hld).pos == k) = false := by simp [e]
      rw [e2]
      exact this
theorem rowP_gone {k : Int} : ∀ (ps : List Int), goneR (rowP ps) k = rowP (ps.erase k)
  | [] => rfl
  | p :: t => by
    have ih := rowP_gone (k := k) t
    unfold goneR rowP at *
    rw [List.map_cons]
    by_cases e : p = k
    · subst e
      simp
    · rw [List.erase_cons_tail (by simp [e]), List.map_cons, ← ih]
      simp [e]
def tr (r : Int) : St := { newV 20 with reads := r }
theorem tr_cur (r k : Int) : curV (tr r) k = nought := rfl
theorem tr_ref {r k : Int} (h : 0 ≤ k ∧ k < 20) : refV (tr r) k = 0 := by
  unfold refV
  rw [if_neg (by simp [tr, newV]), if_pos (by simpa [tr, newV] using h)]
theorem tr_room {r : Int} (h : r < 1000) : Room (tr r) := ⟨by simp [tr, newV, St.ops], by simp [tr, newV], by simp [tr]; omega, by simp [tr, newV]⟩
variable {n : Int} {ps : List Int} {r k : Int}
theorem few_used (hn : 1 ≤ n) (h : 0 ≤ k ∧ k < 20) : usedE ⟨n, rowP ps⟩ (tr r) k = 0 := by
  unfold usedE
  rw [tr_ref h, if_neg (by simp), if_neg]
  rintro ⟨_, q⟩
  rw [rowP_fast] at q
  simp only at q
  omega
theorem few_new (hn : 1 ≤ n) (h : 0 ≤ k ∧ k < 20) (hk : k ∉ ps) (hl : (ps.length : Int) < n) : rdC ⟨n, rowP ps⟩ (tr r) k = ⟨n, rowP (ps ++ [k])⟩ ∧ rdD ⟨n, rowP ps⟩ (tr r) k = tr (r + 1) := by
  unfold rdC rdD
  rw [few_used hn h, if_pos rfl, if_pos rfl, rowP_none hk]
  refine ⟨?_, rfl⟩
  simp only
  unfold placeR
  rw [rowP_len, if_pos hl, tr_cur, rowP_snoc]
theorem few_held (hn : 1 ≤ n) (h : 0 ≤ k ∧ k < 20) (hk : k ∈ ps) : rdC ⟨n, rowP ps⟩ (tr r) k = ⟨n, rowP (ps.erase k ++ [k])⟩ ∧ rdD ⟨n, rowP ps⟩ (tr r) k = tr r := by
  unfold rdC rdD
  rw [few_used hn h, if_pos rfl, if_pos rfl, rowP_some hk]
  refine ⟨?_, rfl⟩
  simp only
  rw [rowP_gone, rowP_snoc]
theorem few_over {p : Int} (hn : 1 ≤ n) (h : 0 ≤ k ∧ k < 20) (hk : k ∉ p :: ps) (hl : ¬ (((p :: ps).length : Nat) : Int) < n) : rdC ⟨n, rowP (p :: ps)⟩ (tr r) k = ⟨n, rowP (ps ++ [k])⟩ ∧ rdD ⟨n, rowP (p :: ps)⟩ (tr r) k = tr (r + 1) := by
  unfold rdC rdD
  rw [few_used hn h, if_pos rfl, if_pos rfl, rowP_none hk]
  refine ⟨?_, rfl⟩
  simp only
  unfold placeR
  rw [rowP_len, if_neg hl, tr_cur, ← rowP_snoc]
  simp [rowP]
/-- A block that is new since W is told. -/
theorem Sit.keepNew {w W W' : World} {c d : Nat} {s : CSt} {t : St} {ks : List (Nat × Obj)} (h : Sit w W c d s t ks) (hb : Below W.heap.size W W') {g : Nat} {o : Obj} (hg : W.heap.size ≤ g) (ho : W'.heap[g]? = some o) : Sit w W' c d s t ((g, o) :: ks) := by
  obtain ⟨K, L, hc, hd, h⟩ := h
  have h2 := h.goes (h.cd.later hb) (GoesC.ofBelow K L hb)
  refine ⟨K, L, hc, hd, h2.cd, h2.newK, h2.newL, h2.below, fun p hp => ?_⟩
  rcases List.mem_cons.1 hp with rfl | hp
  · exact ⟨ho, fun q => by have := h.cd.cache.lt _ q; simp only at this; omega, fun q => by have := h.cd.disk.lt _ q; simp only at this; omega⟩
  · exact h2.keep p hp
theorem Sit.setCell {w W : World} {c d : Nat} {s : CSt} {t : St} {ks : List (Nat × Obj)} {g i : Nat} {cs : Array Value} {ty : TypeId} {v : Value} (h : Sit w W c d s t ((g, .cells cs ty) :: ks)) (hg : w.heap.size ≤ g) (hks : ∀ p ∈ ks, p.1 ≠ g) :
    Sit w (W.setCell ⟨g, i, none⟩ v) c d s t ((g, .cells (cs.setIfInBounds i v) ty) :: ks) := by
  rw [setCell_eq_setRow W g i cs ty (0, 0) v (h.blk (List.mem_cons_self ..))]
  exact h.setRow hg hks
theorem sit_orderB {w W : World} {c d : Nat} {s : CSt} {t : St} {ks : List (Nat × Obj)} (h : Sit w W c d s t ks) (hne : 0 < s.row.length) : Calls Try.prog 31 #[ptr c] W fun e W' => ∃ g cap cur, e = .returned (.slice (some ⟨g, 0, none⟩) s.row.length cap) ∧
    (∀ (j : Nat) (x : Int), (ordV s.row)[j]? = some x → (cur : Array Value)[j]? = some (.int .i64 x)) ∧ s.row.length ≤ cap ∧ Sit w W' c d s t ((g, .cells cur 3) :: ks) := by
  have h' := h
  obtain ⟨K, L, rfl, rfl, h⟩ := h
  refine (order_of h.cd.cache).mono ?_
  rintro e W' ⟨v, rfl, h1, h2⟩
  have hl : (ordV s.row).length = s.row.length := by simp [ordV]
  rcases h1.2 with ⟨_, q⟩ | ⟨g, cap, cur, hv, hg, hh, hc, h6, h7, h8⟩
  · rw [hl] at q; omega
  · rw [hl] at hv hc
    refine ⟨g, cap, cur, by rw [hv], fun j x hx => ?_, hc, h'.keepNew h2 hg hh⟩
    have q := h1.cells (g := g) (by rw [hv]; rfl) j (.int .i64 x) (by rw [List.getElem?_map, hx]; rfl)
    rw [Go.WideShapes.add_plain, Joins.cell_of_block hh, Nat.zero_add] at q
    exact q
/-- The row is rising in the time of use. -/
structure Rec20 (ps : List Int) (n : Nat) (u : Nat → Int) (m : Int) : Prop where
  len : ps.length = n
  nodup : ps.Nodup
  bnd : ∀ p ∈ ps, 0 ≤ p ∧ p < n
  rise : ps.Pairwise (fun p q => u p.toNat < u q.toNat)
  top : ∀ p ∈ ps, u p.toNat < m
theorem mem_all {n : Nat} {ps : List Int} {u : Nat → Int} {m : Int} (h : Rec20 ps n u m) {k : Int} (hk : 0 ≤ k ∧ k < n) : k ∈ ps := by
  apply Classical.byContradiction
  intro hn
  have h1 : (k :: ps).Nodup := List.nodup_cons.2 ⟨hn, h.nodup⟩
  have h2 := nodup_le n (k :: ps) h1 (fun x hx => by
    rcases List.mem_cons.1 hx with rfl | hx
    · exact hk
    · exact h.bnd x hx)
  rw [List.length_cons, h.len] at h2
  omega
theorem Rec20.touch {n : Nat} {ps : List Int} {u : Nat → Int} {m : Int} (h : Rec20 ps n u m) {k : Int} (hk : k ∈ ps) : Rec20 (ps.erase k ++ [k]) n (upd u k.toNat m) (m + 1) := by
  have hsub : (ps.erase k).Sublist ps := List.erase_sublist
  have hkb := h.bnd k hk
  have hne : ∀ x ∈ ps.erase k, x ≠ k := fun x hx => ((h.nodup.mem_erase_iff).1 hx).1
  have hnn : ∀ x ∈ ps.erase k, x.toNat ≠ k.toNat := fun x hx e => by
    have h1 := h.bnd x (hsub.subset hx)
    exact hne x hx (by omega)
  have hu : ∀ x ∈ ps.erase k, upd u k.toNat m x.toNat = u x.toNat := fun x hx => by unfold upd; rw [if_neg (hnn x hx)]
  have huk : upd u k.toNat m k.toNat = m := by unfold upd; rw [if_pos rfl]
  refine ⟨?_, ?_, ?_, ?_, ?_⟩
  · rw [List.length_append, List.length_erase_of_mem hk, h.len]
    have := List.length_pos_of_mem hk
    rw [h.len] at this
    simp
    omega
  · rw [List.nodup_append]
    refine ⟨h.nodup.sublist hsub, by simp, ?_⟩
    intro a ha b hb e
    simp at hb
    exact hne a ha (e.trans hb)
  · intro p hp
    rcases List.mem_append.1 hp with hp | hp
    · exact h.bnd p (hsub.subset hp)
    · simp at hp; subst hp; exact hkb
  · rw [List.pairwise_append]
    refine ⟨(h.rise.sublist hsub).imp_of_mem fun {p q} hp hq hl => by rw [hu p hp, hu q hq]; exact hl, by simp, ?_⟩
    intro a ha b hb
    simp at hb
    subst hb
    rw [hu a ha, huk]
    exact h.top a (hsub.subset ha)
  · intro p hp
    rcases List.mem_append.1 hp with hp | hp
    · rw [hu p hp]; have := h.top p (hsub.subset hp); omega
    · simp at hp; subst hp; rw [huk]; omega
def rangeI (k : Nat) : List Int := (List.range k).map fun (i : Nat) => (i : Int)
theorem rangeI_succ (k : Nat) : rangeI (k + 1) = rangeI k ++ [(k : Int)] := by simp [rangeI, List.range_succ]
theorem rangeI_mem {k : Nat} {x : Int} : x ∈ rangeI k ↔ 0 ≤ x ∧ x < k := by
  unfold rangeI
  rw [List.mem_map]
  constructor
  · rintro ⟨i, hi, rfl⟩
    have := List.mem_range.1 hi
    omega
  · rintro ⟨h1, h2⟩
    exact ⟨x.toNat, List.mem_range.2 (by omega), by omega⟩
theorem rangeI_len (k : Nat) : (rangeI k).length = k := by simp [rangeI]
theorem Rec20.start {n : Nat} (hn : n ≤ 12) : ∀ (u : Nat → Int), (∀ i, i < n → u i = i) → Rec20 (rangeI n) n u 100 := by
  intro u hu
  have hpu : ∀ p ∈ rangeI n, u p.toNat = p := fun p hp => by
    have := rangeI_mem.1 hp
    rw [hu p.toNat (by omega)]
    omega
  have hlt : (rangeI n).Pairwise (fun p q => p < q) := by
    unfold rangeI
    rw [List.pairwise_map]
    exact List.pairwise_lt_range.imp fun {a b} h => by omega
  refine ⟨rangeI_len n, hlt.imp fun {a b} h => by omega, fun p hp => rangeI_mem.1 hp, hlt.imp_of_mem fun {p q} hp hq h => by rw [hpu p hp, hpu q hq]; exact h, fun p hp => ?_⟩
  rw [hpu p hp]
  have := rangeI_mem.1 hp
  omega
end Go.Proofs.Ytencclpcebpgmaa
/- The law of what is put: under way; no condition but that fewer than a million steps came in. -/
namespace Go.Proofs.Ytencclpcebpgmaa
open Go.RowKit Go.Maps

/-- Sixteen numbers of 16 bits as cells. -/
def uRow (f : Int → Int) : Array Value := ((List.range 16).map fun (i : Nat) => Value.int .u16 (f i)).toArray
def bRow (f : Int → Bool) : Array Value := ((List.range 16).map fun (i : Nat) => Value.bool (f i)).toArray
theorem uRow_size (f : Int → Int) : (uRow f).size = 16 := by simp [uRow]
theorem bRow_size (f : Int → Bool) : (bRow f).size = 16 := by simp [bRow]
theorem uRow_get (f : Int → Int) (i : Nat) (h : i < 16) : (uRow f)[i]? = some (.int .u16 (f i)) := by simp [uRow, h]
theorem bRow_get (f : Int → Bool) (i : Nat) (h : i < 16) : (bRow f)[i]? = some (.bool (f i)) := by simp [bRow, h]
theorem uRow_set (f : Int → Int) (i : Nat) (x : Int) : (uRow f).setIfInBounds i (.int .u16 x) = uRow (fun j => if j = i then x else f j) := by
  apply Array.ext_getElem?
  intro j
  by_cases hj : j < 16
  · rw [Array.getElem?_setIfInBounds, uRow_size, uRow_get f j hj, uRow_get (fun j => if j = (i : Int) then x else f j) j hj]
    by_cases e : i = j
    · subst e; simp [hj]
    · have e' : ¬ (j : Int) = i := fun q => e (by omega)
      simp [e, e']
  · rw [Array.getElem?_eq_none (by rw [Array.size_setIfInBounds, uRow_size]; omega), Array.getElem?_eq_none (by rw [uRow_size]; omega)]
theorem bRow_set (f : Int → Bool) (i : Nat) (x : Bool) : (bRow f).setIfInBounds i (.bool x) = bRow (fun j => if j = i then x else f j) := by
  apply Array.ext_getElem?
  intro j
  by_cases hj : j < 16
  · rw [Array.getElem?_setIfInBounds, bRow_size, bRow_get f j hj, bRow_get (fun j => if j = (i : Int) then x else f j) j hj]
    by_cases e : i = j
    · subst e; simp [hj]
    · have e' : ¬ (j : Int) = i := fun q => e (by omega)
      simp [e, e']
  · rw [Array.getElem?_eq_none (by rw [Array.size_setIfInBounds, bRow_size]; omega), Array.getElem?_eq_none (by rw [bRow_size]; omega)]
/-- A step that came in: four cells at a place. -/
structure StepAt (w : World) (b off : Nat) where
  o : Int
  second : Bool
  pos : Int
  fill : Int
  hb : b < w.heap.size
  c0 : w.cell? ⟨b, off, none⟩ = some (.int .u8 o)
  c1 : w.cell? ⟨b, off + 1, none⟩ = some (.bool second)
  c2 : w.cell? ⟨b, off + 2, none⟩ = some (.int .i64 pos)
  c3 : w.cell? ⟨b, off + 3, none⟩ = some (.int .u16 fill)
  ho : 0 ≤ o ∧ o ≤ 255
  hp : I64 pos
  hf : 0 ≤ fill ∧ fill < 65536
def StepsAt (w : World) (p : Option Addr) (m : Nat) : Prop := ∀ r, r < m → ∃ b off, p = some ⟨b, off, none⟩ ∧ Nonempty (StepAt w b (off + r * 4))
theorem zero83 (u : World) : (zeroValue 83).run Try.prog u = .ok (.agg (bRow fun _ => false)) u := by
  have h : (Try.prog.info? 83).map (fun i => (i.zero, i.size)) = some (some (.agg (bRow fun _ => false)), 16) := by kernel_rfl
  exact (zero_of_info h).1 u
theorem zero81 (u : World) : (zeroValue 81).run Try.prog u = .ok (.agg (uRow fun _ => 0)) u := by
  have h : (Try.prog.info? 81).map (fun i => (i.zero, i.size)) = some (some (.agg (uRow fun _ => 0)), 16) := by kernel_rfl
  exact (zero_of_info h).1 u
theorem size81 : (Try.prog.info? 81).map (·.size) = some 16 := by
  have h : (Try.prog.info? 81).map (fun i => (i.zero, i.size)) = some (some (.agg (uRow fun _ => 0)), 16) := by kernel_rfl
  exact (zero_of_info h).2
theorem uRow_one (f : Int → Int) : (uRow f).all (·.oneCell') = true := by
  rw [Array.all_eq_true_iff_forall_mem]
  intro v hv
  simp [uRow] at hv
  obtain ⟨i, _, rfl⟩ := hv
  rfl
end Go.Proofs.Ytencclpcebpgmaa
