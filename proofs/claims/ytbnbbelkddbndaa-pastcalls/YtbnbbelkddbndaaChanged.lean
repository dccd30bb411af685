import Derived.Test.YtbnbbelkddbndaaCutMath
import Derived.Test.YtbnbbelkddbndaaLives
/- Changed: the numbers at which two images are not the same; no condition but that lists are not longer than lists can be. -/
namespace Go.Proofs.Ytbnbbelkddbndaa
open Go.RowKit Go.Maps
/-- Does c hold f at k? -/
def hasB (c : Con) (x : Cel) : Bool := match c x.1 with
  | some g => sameB g x.2
  | none => false
def strikeC (c : Con) (k : Int) : Con := fun j => if j = k then none else c j
def stepC (c : Con) (x : Cel) : Con := if hasB c x then strikeC c x.1 else holdC c x.1 x.2
def chgC (c : Con) (l : List Cel) : Con := l.foldl stepC c
theorem chgC_snoc (c : Con) (l : List Cel) (x : Cel) : chgC c (l ++ [x]) = stepC (chgC c l) x := by simp [chgC]
variable {B : Nat} {w w' : World} {b : Nat} {c : Con}
theorem strikeP {m : Int → Option Value} (h2 : ∀ k, c k = none → m k = none) (h3 : ∀ k f, c k = some f → ∃ g off, m k = some (.pointer (some ⟨g, off, none⟩)) ∧ g < B ∧ BlkAt w g off f)
    {x : Int} (hm : MapIs Try.prog 3 w' b (fun y => if y = x then none else m y)) (hB : ∀ k, k < B → w'.heap[k]? = w.heap[k]?) : PtrsAt B w' b (strikeC c x) := by
  refine ⟨_, hm, fun k hk => ?_, fun k f' hk => ?_⟩
  · unfold strikeC at hk
    by_cases e : k = x
    · rw [if_pos e]
    · rw [if_neg e] at hk ⊢; exact h2 k hk
  · unfold strikeC at hk
    by_cases e : k = x
    · rw [if_pos e] at hk; cases hk
    · rw [if_neg e] at hk ⊢
      obtain ⟨g', off', q1, q2, q3⟩ := h3 k f' hk
      exact ⟨g', off', q1, q2, q3.kept (hB g' q2)⟩
theorem stepC_other {c : Con} {x : Cel} {k : Int} (h : k ≠ x.1) : stepC c x k = c k := by
  unfold stepC
  split
  · unfold strikeC; rw [if_neg h]
  · unfold holdC; rw [if_neg h]
theorem stepC_same {c c' : Con} {k : Int} {f : Nat → Int} (h : c' k = c k) : stepC c' (k, f) k = stepC c (k, f) k := by
  have e : hasB c' (k, f) = hasB c (k, f) := by unfold hasB; simp only [h]
  unfold stepC
  rw [e]
  split
  · simp [strikeC]
  · simp [holdC]
theorem chgC_out : ∀ {l : List Cel} {c : Con} {k : Int}, k ∉ l.map (·.1) → chgC c l k = c k
  | [], _, _, _ => rfl
  | x :: t, c, k, h => by
    show chgC (stepC c x) t k = c k
    rw [chgC_out (fun q => h (by simp only [List.map_cons, List.mem_cons]; exact .inr q)), stepC_other fun e => h (by simp [e])]
theorem chgC_in : ∀ {l : List Cel} {m : Int} {c : Con} {k : Int}, Rise m l → k ∈ l.map (·.1) → chgC c l k = stepC c (k, atL l k) k
  | (i, x) :: t, m, c, k, hr, h => by
    show chgC (stepC c (i, x)) t k = _
    have up : ∀ {t : List Cel} {m : Int}, Rise m t → ∀ y ∈ t.map (·.1), m < y := by
      intro t
      induction t with
      | nil => intro m _ y hy; simp at hy
      | cons c t ih =>
        intro m hr y hy
        rcases List.mem_cons.1 hy with rfl | hy
        · exact hr.1
        · have := ih hr.2 y hy
          have := hr.1
          omega
    by_cases e : i = k
    · subst e
      rw [chgC_out fun q => by have := up hr.2 _ q; omega]
      simp [atL]
    · have ht : k ∈ t.map (·.1) := by
        simp only [List.map_cons, List.mem_cons] at h
        rcases h with q | q
        · exact absurd q.symm e
        · exact q
      rw [chgC_in hr.2 ht]
      have ea : atL ((i, x) :: t) k = atL t k := by simp [atL, e]
      have es : stepC c (i, x) k = c k := stepC_other fun q => e q.symm
      rw [ea]
      exact stepC_same es
theorem atL_mem {k : Int} : ∀ {l : List Cel}, k ∈ l.map (·.1) → ∃ x ∈ l, x.1 = k ∧ atL l k = x.2
  | [], h => by simp at h
  | (i, x) :: t, h => by
    by_cases e : i = k
    · exact ⟨(i, x), by simp, e, by simp [atL, e]⟩
    · have ht : k ∈ t.map (·.1) := by
        simp only [List.map_cons, List.mem_cons] at h
        rcases h with q | q
        · exact absurd q.symm e
        · exact q
      obtain ⟨y, h1, h2, h3⟩ := atL_mem ht
      exact ⟨y, List.mem_cons_of_mem _ h1, h2, by simp [atL, e, h3]⟩
/-- What a rising list of blocks says, as a map. -/
theorem hold_at {l : List Cel} {m : Int} (hr : Rise m l) (hs : Sound l) (k : Int) : (atL l k = nought → (holdCs noC l) k = none) ∧ (atL l k ≠ nought → (holdCs noC l) k = some (atL l k)) := by
  have h1 : ((holdCs noC l) k).getD nought = atL l k := by
    rw [lastB_hold k l noC (fun x hx => (hs x hx).1)]
    exact lastB_at k hr
  cases hc : (holdCs noC l) k with
  | none =>
    rw [hc] at h1
    exact ⟨fun _ => rfl, fun q => absurd h1.symm q⟩
  | some f =>
    rw [hc] at h1
    have hf : f ≠ nought := by
      have gen : ∀ (l : List Cel) (c : Con), (∀ k f, c k = some f → f ≠ nought) → Sound l → ∀ k f, (holdCs c l) k = some f → f ≠ nought := by
        intro l
        induction l with
        | nil => intro c h _ k f hk; exact h k f hk
        | cons x t ih =>
          intro c h hs k f hk
          refine ih (holdC c x.1 x.2) (fun k f hk => ?_) (fun d hd => hs d (List.mem_cons_of_mem _ hd)) k f hk
          unfold holdC at hk
          by_cases e : k = x.1
          · rw [if_pos e] at hk
            cases hb : blankB x.2
            · rw [hb] at hk
              have e2 : x.2 = f := by simpa using hk
              rw [← e2]
              exact (hs x (by simp)).2
            · rw [hb] at hk; cases hk
          · rw [if_neg e] at hk
            exact h k f hk
      exact gen l noC (fun k f h => by simp [noC] at h) hs k f hc
    have e : f = atL l k := h1
    exact ⟨fun q => absurd (e.trans q) hf, fun _ => by rw [e]⟩
theorem chg_some {s t : List Cel} {m m' : Int} (rs : Rise m s) (ss : Sound s) (rt : Rise m' t) (st : Sound t) (k : Int) : (chgC (holdCs noC s) t k).isSome = true ↔ atL s k ≠ atL t k := by
  by_cases h : k ∈ t.map (·.1)
  · obtain ⟨x, hx, hxk, hxa⟩ := atL_mem h
    have hn : atL t k ≠ nought := by rw [hxa]; exact (st x hx).2
    have hcan : Can (atL t k) := by rw [hxa]; exact (st x hx).1
    rw [chgC_in rt h]
    unfold stepC hasB
    have hcs := at_can ss k
    by_cases e0 : atL s k = nought
    · simp only [(hold_at rs ss k).1 e0, Bool.false_eq_true, if_false]
      unfold holdC
      rw [if_pos rfl, blank_no hcan hn, e0]
      simp
      exact fun q => hn q.symm
    · simp only [(hold_at rs ss k).2 e0]
      cases hb : sameB (atL s k) (atL t k)
      · simp only [Bool.false_eq_true, if_false]
        unfold holdC
        rw [if_pos rfl, blank_no hcan hn]
        simp
        intro q
        rw [q, sameB_self] at hb
        cases hb
      · simp only [if_true]
        unfold strikeC
        rw [if_pos rfl]
        simp
        exact (hcs.same hcan).1 hb
  · rw [chgC_out h, atL_none h]
    by_cases e0 : atL s k = nought
    · rw [(hold_at rs ss k).1 e0]
      simp [e0]
    · rw [(hold_at rs ss k).2 e0]
      simp [e0]
theorem rise_may {n : Int} : ∀ {l : List Cel} {a : Int}, risesB n a l = true → Rise a l
  | [], _, _ => trivial
  | c :: t, a, h => by
    unfold risesB at h
    simp at h
    obtain ⟨⟨⟨h1, _⟩, _⟩, h4⟩ := h
    exact ⟨by omega, rise_may h4⟩
theorem may_parts {n : Int} {l : List Cel} (h : mayB n l = true) (hc : ∀ c ∈ l, Can c.2) : Rise (-1) l ∧ Sound l := by
  have hb := (may_bounds h).2
  unfold mayB at h
  simp at h
  refine ⟨rise_may h.2, fun c hcm => ⟨hc c hcm, fun q => ?_⟩⟩
  have := (hb c hcm).2.2
  rw [(hc c hcm).blank.2 q] at this
  cases this
end Go.Proofs.Ytbnbbelkddbndaa
/- Changed: the walk. -/
namespace Go.Proofs.Ytbnbbelkddbndaa
open Go.RowKit Go.Maps
theorem wpList_lookR {ops : Array Oper} {rest : List Oper} {o : Oper} {a : Act} {w : World} {Q : Exit → Act → World → Prop} {t : TypeId} (hgd : o.guard = none) (m x : Operand) (ho : o.op = Op.lookup t m x true) (M X V : Value) (hm : a.eval m = M) (hx : a.eval x = X)
    (hr : (Instr.lookup t M X true).run Try.prog w = .ok V w) (h : wpList Try.prog ops Q rest (a.put o.dst V) w) : wpList Try.prog ops Q (o :: rest) a w :=
  wpList_plain hgd fun _ hK => by
    unfold Oper.wp
    simp [execOp, ho, hm, hx, hr, Result.andThen]
    exact hK _ _ h
set_option maxRecDepth 20000 in
theorem changed_none (n : Int) (s : List Cel) (p : Option Addr) (cp : Nat) (m : Int) (t : List Cel) (q : Option Addr) (cq : Nat) (w : World) (hls : s.length < 9223372036854775807) (hlt : t.length < 9223372036854775807) (hs : ImgAt w p s) (ht : ImgAt w q t) (ho : oneB n s m t = false) :
    Calls Try.prog 28 #[.agg #[.int .i64 n, .slice p s.length cp], .agg #[.int .i64 m, .slice q t.length cq]] w fun e w' => e = .returned (.slice none 0 0) ∧ Below w.heap.size w w' := by
  have hB : Below w.heap.size w ((w.alloc (.cells #[.int .i64 n, .slice p s.length cp] 24)).alloc (.cells #[.int .i64 m, .slice q t.length cq] 24)) := (((Below.refl _ _).alloc (Nat.le_refl _) _).alloc (by simp) _)
  have h1 := one_any n s p cp m t q cq _ hls hlt (hs.later hB) (ht.later hB)
  rw [ho] at h1
  clear hs ht
  go_enter Try.func28, Try.ntmps28
  go_wp2_with (go_at_call 59; refine h1.mono ?_; rintro e W1 ⟨rfl, hb1⟩)
  go_ret
  exact ⟨rfl, below3 hB hb1⟩
set_option maxRecDepth 20000 in
set_option maxHeartbeats 1000000 in
theorem changed_ok (n : Int) (s : List Cel) (p : Option Addr) (cp : Nat) (t : List Cel) (q : Option Addr) (cq : Nat) (w : World) (hls : s.length < 9223372036854775807) (hlt : t.length < 9223372036854775807) (hs : ImgAt w p s) (ht : ImgAt w q t) (hms : mayB n s = true) (hmt : mayB n t = true) (hcs : ∀ c ∈ s, Can c.2) (hct : ∀ c ∈ t, Can c.2) :
    Calls Try.prog 28 #[.agg #[.int .i64 n, .slice p s.length cp], .agg #[.int .i64 n, .slice q t.length cq]] w fun e w' => ∃ (g cap : Nat) (zs : List Int), e = .returned (.slice (some ⟨g, 0, none⟩) zs.length cap) ∧ (∀ j, j < zs.length → w'.cell? ⟨g, j, none⟩ = some (.int .i64 (zs.getD j 0))) ∧ zs.Pairwise (fun a b => a < b) ∧ (∀ x, x ∈ zs ↔ atL s x ≠ atL t x) ∧ zs.length ≤ 1048576 ∧ w.heap.size ≤ g ∧ g < w'.heap.size ∧ Below w.heap.size w w' := by
  have hB : Below w.heap.size w ((w.alloc (.cells #[.int .i64 n, .slice p s.length cp] 24)).alloc (.cells #[.int .i64 n, .slice q t.length cq] 24)) := (((Below.refl _ _).alloc (Nat.le_refl _) _).alloc (by simp) _)
  have hG : ((w.alloc (.cells #[.int .i64 n, .slice p s.length cp] 24)).alloc (.cells #[.int .i64 n, .slice q t.length cq] 24)).heap[w.heap.size + 1]? = some (.cells #[.int .i64 n, .slice q t.length cq] 24) := by
    have := heap_alloc_new (w.alloc (.cells #[.int .i64 n, .slice p s.length cp] 24)) (.cells #[.int .i64 n, .slice q t.length cq] 24)
    rwa [show (w.alloc (.cells #[.int .i64 n, .slice p s.length cp] 24)).heap.size = w.heap.size + 1 by simp] at this
  have hG0 : ((w.alloc (.cells #[.int .i64 n, .slice p s.length cp] 24)).alloc (.cells #[.int .i64 n, .slice q t.length cq] 24)).heap[w.heap.size]? = some (.cells #[.int .i64 n, .slice p s.length cp] 24) := heap_kept (heap_alloc_new w _) (below_new _ _)
  have h1 := one_any n s p cp n t q cq _ hls hlt (hs.later hB) (ht.later hB)
  rw [show oneB n s n t = true by unfold oneB; rw [hms, hmt]; simp] at h1
  obtain ⟨rs, ss⟩ := may_parts hms hcs
  obtain ⟨rt, st⟩ := may_parts hmt hct
  have HSome : Hid (∀ k, (chgC (holdCs noC s) t k).isSome = true ↔ atL s k ≠ atL t k) := fun k => chg_some rs ss rt st k
  have HBs : Hid (∀ c ∈ t, inTop c.1 ∧ blankB c.2 = false) := fun c hc => by
    obtain ⟨b1, b2⟩ := may_bounds hmt
    obtain ⟨y1, y2, y3⟩ := b2 c hc
    exact ⟨inTop_bnd b1 ⟨y1, y2⟩, y3⟩
  have HS : Hid (ImgAt w p s) := hs
  have HT : Hid (ImgAt w q t) := ht
  clear hs ht rs ss rt st hcs hct hmt
  go_enter Try.func28, Try.ntmps28
  go_wp2_with (go_at_call 59; fail)
  refine h1.mono ?_
  rintro e W1 ⟨rfl, hb1⟩
  have hB1 := below3 hB hb1
  have hG1 := (hb1.block (w.heap.size + 1) (Array.getElem?_eq_some_iff.1 hG).1).trans hG
  have hG2 := (hb1.block w.heap.size (Array.getElem?_eq_some_iff.1 hG0).1).trans hG0
  have j0 : W1.cell? ⟨w.heap.size, 0, none⟩ = some (.int .i64 n) := Joins.cell_of_block hG2 0
  have j1 : W1.cell? ⟨w.heap.size, 1, none⟩ = some (.slice p s.length cp) := Joins.cell_of_block hG2 1
  have hN := byNumber_of n s p cp W1 hls (HS.out.later hB1) hms
  have hlt1 : w.heap.size + 1 < W1.heap.size := (Array.getElem?_eq_some_iff.1 hG1).1
  clear h1 hb1 hG hG0 hG2 hB HS
  go_wp2_with (go_at_call 54; fail)
  refine hN.mono ?_
  rintro e W2 ⟨mb, rfl, hP2, hmb, hb2⟩
  have hG3 := (hb2.block (w.heap.size + 1) hlt1).trans hG1
  have k1 : W2.cell? ⟨w.heap.size + 1, 1, none⟩ = some (.slice q t.length cq) := Joins.cell_of_block hG3 1
  have HP2 : Hid (PtrsAt W1.heap.size W2 mb (chgC (holdCs noC s) (t.take 0))) := hP2
  have HB2 : Hid (Below w.heap.size w W2) := below3 hB1 hb2
  have HG3 : Hid (W2.heap[w.heap.size + 1]? = some (.cells #[.int .i64 n, .slice q t.length cq] 24)) := hG3
  have hs2 : W1.heap.size ≤ W2.heap.size := hb2.size
  clear hN hP2 hb2 hB1 hG1 hG3 j0 j1 hms
  go_wp2
  go_loopw [19] (fun s19 wx => ∃ k : Nat, k ≤ t.length ∧ s19 = .int .i64 k ∧ Hid (PtrsAt W1.heap.size wx mb (chgC (holdCs noC s) (t.take k))) ∧ Hid (Fr (fun i => i = mb) W2 wx)) (fun s19 _ => t.length - (intOf s19).toNat)
  case atStart => exact ⟨0, by omega, rfl, HP2.out, Fr.refl _ _⟩
  case round =>
    obtain ⟨k, hk, rfl, HP, HF⟩ := hrel
    clear HP2 k1
    have hGr : wr.heap[w.heap.size + 1]? = some (.cells #[.int .i64 n, .slice q t.length cq] 24) := (HF.out.block _ (by omega) (by omega)).trans HG3.out
    have hBr : Below w.heap.size w wr := HB2.out.trans (HF.out.below (fun i hi => by omega) (by have := HB2.out.size; omega))
    have k1 : wr.cell? ⟨w.heap.size + 1, 1, none⟩ = some (.slice q t.length cq) := Joins.cell_of_block hGr 1
    by_cases hk2 : (k : Int) < t.length
    · have hc : t[k]? = some t[k] := List.getElem?_eq_getElem (by omega)
      obtain ⟨b, off, rfl, hlt, hC⟩ := HT.out (by omega)
      have htk := take_snoc hc
      generalize t[k] = c at hc htk
      obtain ⟨hin, hbl⟩ := HBs.out c (List.mem_of_getElem? hc)
      obtain ⟨q1, q2⟩ := (hC.later hBr hlt) k c hc
      have hW := hin.wf
      have hnx : chgC (holdCs noC s) (t.take (k + 1)) = stepC (chgC (holdCs noC s) (t.take k)) c := by rw [htk, chgC_snoc]
      obtain ⟨m, hM, h2, h3⟩ := HP.out
      have hbB : b < W1.heap.size := by omega
      have HPut : Hid (hasB (chgC (holdCs noC s) (t.take k)) c = false → ∀ (u w' : World), Fr (fun _ => False) wr u → MapIs Try.prog 3 w' mb (fun y => if y = c.1 then some (.pointer (some ⟨b, off + k * 1025 + 1, none⟩)) else m y) → u.grownBy w' (some mb) → PtrsAt W1.heap.size w' mb (chgC (holdCs noC s) (t.take (k + 1))) ∧ Fr (fun i => i = mb) W2 w') := fun hh u w' hu hm' hg' => by
        have hF : Fr (fun i => i = mb) wr w' := (hu.mono fun _ _ q => q.elim).trans ((Fr.ofGrown hg').mono fun i _ q => by injection q with q; exact q.symm) fun _ _ q => q
        refine ⟨?_, HF.out.trans hF fun _ _ q => q⟩
        rw [hnx]
        unfold stepC
        rw [hh]
        exact putP h2 h3 hbB q2 hbl hm' fun i hi => hF.block i (by have := HF.out.size; omega) (by omega)
      have HDel : Hid (hasB (chgC (holdCs noC s) (t.take k)) c = true → ∀ (u w' : World), Fr (fun _ => False) wr u → MapIs Try.prog 3 w' mb (fun y => if y = c.1 then none else m y) → u.grownBy w' (some mb) → PtrsAt W1.heap.size w' mb (chgC (holdCs noC s) (t.take (k + 1))) ∧ Fr (fun i => i = mb) W2 w') := fun hh u w' hu hm' hg' => by
        have hF : Fr (fun i => i = mb) wr w' := (hu.mono fun _ _ q => q.elim).trans ((Fr.ofGrown hg').mono fun i _ q => by injection q with q; exact q.symm) fun _ _ q => q
        refine ⟨?_, HF.out.trans hF fun _ _ q => q⟩
        rw [hnx]
        unfold stepC
        rw [hh]
        exact strikeP h2 h3 hm' fun i hi => hF.block i (by have := HF.out.size; omega) (by omega)
      have hlk := look_ok Try.underlying3 keyed3 Try.underlying84 hM (zero89 wr) hW
      have HHas : Hid (hasB (chgC (holdCs noC s) (t.take k)) c = match chgC (holdCs noC s) (t.take k) c.1 with | some g => sameB g c.2 | none => false) := rfl
      cases hcv : chgC (holdCs noC s) (t.take k) c.1 with
      | none =>
        have hmc := h2 c.1 hcv
        rw [hmc] at hlk
        have hh : hasB (chgC (holdCs noC s) (t.take k)) c = false := by rw [HHas.out, hcv]
        have hput := HPut.out hh
        have HPut' : Hid (∀ (u w' : World), Fr (fun _ => False) wr u → MapIs Try.prog 3 w' mb (fun y => if y = c.1 then some (.pointer (some ⟨b, off + k * 1025 + 1, none⟩)) else m y) → u.grownBy w' (some mb) → PtrsAt W1.heap.size w' mb (chgC (holdCs noC s) (t.take (k + 1))) ∧ Fr (fun i => i = mb) W2 w') := hput
        have hMq : ∀ dr, MapIs Try.prog 3 ((wr.drewN dr).drew) mb m := fun dr => hM.kept rfl
        have q1q : ∀ dr, (wr.drewN dr).cell? ⟨b, off + k * 1025, none⟩ = some (.int .i64 c.1) := fun _ => q1
        have FrN : Hid (∀ dr, Fr (fun _ => False) wr ((wr.drewN dr).drew)) := fun dr => ⟨rfl, rfl, rfl, Nat.le_refl _, fun _ _ _ => rfl⟩
        clear hput HPut HDel h2 h3 HP HF hnx hcv hmc hh HHas hGr hBr hC htk hc q2 hM hbl
        go_wp2_with (at_lookup; refine wpList_lookR rfl _ _ rfl (.map (some mb)) (.int .i64 c.1) _ rfl rfl hlk ?_)
        go_quiet (fail)
        generalize hU : wr.drewN _ = U
        have q1U : U.cell? ⟨b, off + k * 1025, none⟩ = some (.int .i64 c.1) := by rw [← hU]; exact q1q _
        have hMU : MapIs Try.prog 3 U.drew mb m := by rw [← hU]; exact hMq _
        have FrU : Hid (Fr (fun _ => False) wr U.drew) := by rw [← hU]; exact FrN.out _
        clear hU q1q hMq FrN
        go_wp2
        go_still_tail 8, (by kernel_rfl)
        change wpList _ _ _ _ _ (World.drew _)
        refine wpList_putM rfl _ _ _ 84 rfl 89 Try.underlying3 keyed3 Try.underlying84 mb m rfl hMU c.1 hin rfl _ rfl ?_
        intro w' hm' hg'
        have n1 : Hid (PtrsAt W1.heap.size w' mb (chgC (holdCs noC s) (t.take (k + 1))) ∧ Fr (fun i => i = mb) W2 w') := HPut'.out _ w' FrU.out hm' hg'
        clear hm' hg' HPut' hMU hlk
        go_wp2
        exact ⟨⟨k + 1, by omega, by go_num, n1.out.1, n1.out.2⟩, by simp [intOf]; omega⟩
      | some f0 =>
        obtain ⟨g0, o0, hmc, hg0, hb0⟩ := h3 c.1 f0 hcv
        rw [hmc] at hlk
        have hh : hasB (chgC (holdCs noC s) (t.take k)) c = sameB f0 c.2 := by rw [HHas.out, hcv]
        obtain ⟨F0, hF0⟩ : ∃ F0, blk f0 = F0 := ⟨_, rfl⟩
        obtain ⟨F1, hF1⟩ : ∃ F1, blk c.2 = F1 := ⟨_, rfl⟩
        have ld0 : ∀ u, BlkAt u g0 o0 f0 ∧ BlkAt u b (off + k * 1025 + 1) c.2 → (Instr.loadAt 40 (.pointer (some ⟨g0, o0, none⟩))).run Try.prog u = .ok (.agg F0) u := fun u hu => by rw [← hF0]; exact loadM hu.1
        have ld1 : ∀ u, BlkAt u g0 o0 f0 ∧ BlkAt u b (off + k * 1025 + 1) c.2 → (Instr.loadAt 40 (.pointer (some ⟨b, off + k * 1025 + 1, none⟩))).run Try.prog u = .ok (.agg F1) u := fun u hu => by rw [← hF1]; exact loadM hu.2
        have hSt : BlkAt wr.drew g0 o0 f0 ∧ BlkAt wr.drew b (off + k * 1025 + 1) c.2 := ⟨hb0, q2⟩
        have hMd : MapIs Try.prog 3 wr.drew mb m := hM.kept rfl
        have hMdd : MapIs Try.prog 3 wr.drew.drew mb m := hM.kept rfl
        have q1d : wr.drew.cell? ⟨b, off + k * 1025, none⟩ = some (.int .i64 c.1) := q1
        cases hsb : sameB f0 c.2
        · rw [hsb] at hh
          have HPut' : Hid (∀ (u w' : World), Fr (fun _ => False) wr u → MapIs Try.prog 3 w' mb (fun y => if y = c.1 then some (.pointer (some ⟨b, off + k * 1025 + 1, none⟩)) else m y) → u.grownBy w' (some mb) → PtrsAt W1.heap.size w' mb (chgC (holdCs noC s) (t.take (k + 1))) ∧ Fr (fun i => i = mb) W2 w') := HPut.out hh
          have FrN : Hid (Fr (fun _ => False) wr wr.drew.drew) := ⟨rfl, rfl, rfl, Nat.le_refl _, fun _ _ _ => rfl⟩
          clear HPut HDel h2 h3 HP HF hnx hcv hmc hh HHas hGr hBr hC htk hc q2 hM hbl hb0
          go_wp2_with (at_lookup; refine wpList_lookR rfl _ _ rfl (.map (some mb)) (.int .i64 c.1) _ rfl rfl hlk ?_)
          refine wp_region_ord (S := fun u => BlkAt u g0 o0 f0 ∧ BlkAt u b (off + k * 1025 + 1) c.2) [(0, true), (1, true), (2, true), (3, true), (4, true), (5, true), (6, true), (7, true), (8, true), (9, true), (10, true)]
            (by kernel_rfl) rfl (by kernel_rfl) (fun d _ _ _ _ h => by cases d <;> exact h) hSt ?_
          simp only [inOrd, List.getElem?_cons_zero, List.getElem?_cons_succ]
          refine wpOrd_move rfl _ rfl ?_
          simp only [Act.put, List.setIfInBounds_toArray, List.set_cons_succ, List.set_cons_zero]
          refine wpOrd_move rfl _ rfl ?_
          simp only [Act.put, List.setIfInBounds_toArray, List.set_cons_succ, List.set_cons_zero]
          refine wpOrd_move rfl _ rfl ?_
          simp only [Act.put, List.setIfInBounds_toArray, List.set_cons_succ, List.set_cons_zero]
          refine wpOrd_yield (v := .pointer (some ⟨g0, o0, none⟩)) rfl (fun u hu => by go_simp) ?_
          simp only [Act.put, List.setIfInBounds_toArray, List.set_cons_succ, List.set_cons_zero]
          refine wpOrd_yield (v := .agg F0) rfl (fun u hu => exec_load rfl rfl (ld0 u hu)) ?_
          simp only [Act.put, List.setIfInBounds_toArray, List.set_cons_succ, List.set_cons_zero]
          refine wpOrd_move rfl _ rfl ?_
          simp only [Act.put, List.setIfInBounds_toArray, List.set_cons_succ, List.set_cons_zero]
          refine wpOrd_yield (v := .pointer (some ⟨b, off + k * 1025, none⟩)) rfl (fun u hu => by go_simp) ?_
          simp only [Act.put, List.setIfInBounds_toArray, List.set_cons_succ, List.set_cons_zero]
          refine wpOrd_yield (v := .pointer (some ⟨b, off + k * 1025 + 1, none⟩)) rfl (fun u hu => by go_simp) ?_
          simp only [Act.put, List.setIfInBounds_toArray, List.set_cons_succ, List.set_cons_zero]
          refine wpOrd_yield (v := .agg F1) rfl (fun u hu => exec_load rfl rfl (ld1 u hu)) ?_
          simp only [Act.put, List.setIfInBounds_toArray, List.set_cons_succ, List.set_cons_zero]
          refine wpOrd_yield (v := .bool false) rfl (fun u hu => exec_eq40 rfl rfl rfl hF0 hF1 hsb) ?_
          simp only [Act.put, List.setIfInBounds_toArray, List.set_cons_succ, List.set_cons_zero]
          refine wpOrd_yield (v := .bool false) rfl (fun u hu => by go_simp) ?_
          simp only [Act.put, List.setIfInBounds_toArray, List.set_cons_succ, List.set_cons_zero]
          refine wpOrd_nil ?_
          generalize hU : wr.drew = U
          rw [hU] at q1d hMdd FrN
          clear hU
          go_wp2
          go_still_tail 8, (by kernel_rfl)
          change wpList _ _ _ _ _ (World.drew _)
          refine wpList_putM rfl _ _ _ 84 rfl 89 Try.underlying3 keyed3 Try.underlying84 mb m rfl hMdd c.1 hin rfl _ rfl ?_
          intro w' hm' hg'
          have n1 : Hid (PtrsAt W1.heap.size w' mb (chgC (holdCs noC s) (t.take (k + 1))) ∧ Fr (fun i => i = mb) W2 w') := HPut'.out _ w' FrN.out hm' hg'
          clear hm' hg' HPut' hMdd hMd hlk
          go_wp2
          exact ⟨⟨k + 1, by omega, by go_num, n1.out.1, n1.out.2⟩, by simp [intOf]; omega⟩
        · rw [hsb] at hh
          have HDel' : Hid (∀ (u w' : World), Fr (fun _ => False) wr u → MapIs Try.prog 3 w' mb (fun y => if y = c.1 then none else m y) → u.grownBy w' (some mb) → PtrsAt W1.heap.size w' mb (chgC (holdCs noC s) (t.take (k + 1))) ∧ Fr (fun i => i = mb) W2 w') := HDel.out hh
          have FrN : Hid (Fr (fun _ => False) wr wr.drew) := ⟨rfl, rfl, rfl, Nat.le_refl _, fun _ _ _ => rfl⟩
          clear HPut HDel h2 h3 HP HF hnx hcv hmc hh HHas hGr hBr hC htk hc q2 hM hbl hb0
          go_wp2_with (at_lookup; refine wpList_lookR rfl _ _ rfl (.map (some mb)) (.int .i64 c.1) _ rfl rfl hlk ?_)
          refine wp_region_ord (S := fun u => BlkAt u g0 o0 f0 ∧ BlkAt u b (off + k * 1025 + 1) c.2) [(0, true), (1, true), (2, true), (3, true), (4, true), (5, true), (6, true), (7, true), (8, true), (9, true), (10, true)]
            (by kernel_rfl) rfl (by kernel_rfl) (fun d _ _ _ _ h => by cases d <;> exact h) hSt ?_
          simp only [inOrd, List.getElem?_cons_zero, List.getElem?_cons_succ]
          refine wpOrd_move rfl _ rfl ?_
          simp only [Act.put, List.setIfInBounds_toArray, List.set_cons_succ, List.set_cons_zero]
          refine wpOrd_move rfl _ rfl ?_
          simp only [Act.put, List.setIfInBounds_toArray, List.set_cons_succ, List.set_cons_zero]
          refine wpOrd_move rfl _ rfl ?_
          simp only [Act.put, List.setIfInBounds_toArray, List.set_cons_succ, List.set_cons_zero]
          refine wpOrd_yield (v := .pointer (some ⟨g0, o0, none⟩)) rfl (fun u hu => by go_simp) ?_
          simp only [Act.put, List.setIfInBounds_toArray, List.set_cons_succ, List.set_cons_zero]
          refine wpOrd_yield (v := .agg F0) rfl (fun u hu => exec_load rfl rfl (ld0 u hu)) ?_
          simp only [Act.put, List.setIfInBounds_toArray, List.set_cons_succ, List.set_cons_zero]
          refine wpOrd_move rfl _ rfl ?_
          simp only [Act.put, List.setIfInBounds_toArray, List.set_cons_succ, List.set_cons_zero]
          refine wpOrd_yield (v := .pointer (some ⟨b, off + k * 1025, none⟩)) rfl (fun u hu => by go_simp) ?_
          simp only [Act.put, List.setIfInBounds_toArray, List.set_cons_succ, List.set_cons_zero]
          refine wpOrd_yield (v := .pointer (some ⟨b, off + k * 1025 + 1, none⟩)) rfl (fun u hu => by go_simp) ?_
          simp only [Act.put, List.setIfInBounds_toArray, List.set_cons_succ, List.set_cons_zero]
          refine wpOrd_yield (v := .agg F1) rfl (fun u hu => exec_load rfl rfl (ld1 u hu)) ?_
          simp only [Act.put, List.setIfInBounds_toArray, List.set_cons_succ, List.set_cons_zero]
          refine wpOrd_yield (v := .bool true) rfl (fun u hu => exec_eq40 rfl rfl rfl hF0 hF1 hsb) ?_
          simp only [Act.put, List.setIfInBounds_toArray, List.set_cons_succ, List.set_cons_zero]
          refine wpOrd_yield (v := .bool true) rfl (fun u hu => by go_simp) ?_
          simp only [Act.put, List.setIfInBounds_toArray, List.set_cons_succ, List.set_cons_zero]
          refine wpOrd_nil ?_
          go_wp2_with (at_delete; refine wpList_delM rfl _ _ 84 rfl 89 Try.underlying3 keyed3 Try.underlying84 mb m rfl hMd c.1 hW rfl ?_; intro w' hm' hg')
          have n1 : Hid (PtrsAt W1.heap.size w' mb (chgC (holdCs noC s) (t.take (k + 1))) ∧ Fr (fun i => i = mb) W2 w') := HDel'.out _ w' FrN.out hm' hg'
          exact ⟨⟨k + 1, by omega, by go_num, n1.out.1, n1.out.2⟩, by simp [intOf]; omega⟩
    · obtain rfl : k = t.length := by omega
      have hP := HP.out
      rw [List.take_length] at hP
      obtain ⟨m, hM, h2, h3⟩ := hP
      have hRs := rising_of hM
      have HBr : Hid (Below w.heap.size w wr) := hBr
      have HMm : Hid (∀ x, (m x).isSome = true ↔ atL s x ≠ atL t x) := fun x => by
        rw [← HSome.out x]
        cases hcx : chgC (holdCs noC s) t x with
        | none => rw [h2 x hcx]; simp
        | some f => obtain ⟨g, off, z, _⟩ := h3 x f hcx; rw [z]; simp
      clear hM h2 h3 HP hGr hBr k1
      go_wp2_with (go_at_call 64; fail)
      refine hRs.mono ?_
      rintro e W3 ⟨g, cap, zs, rfl, hcs, hpw, hmem, hl, _, hg1, hg2, hb3⟩
      have HC : Hid (∀ j, j < zs.length → W3.cell? ⟨g, j, none⟩ = some (.int .i64 (zs.getD j 0))) := hcs
      have HPw : Hid (zs.Pairwise (fun a b => a < b)) := hpw
      have HMem : Hid (∀ x, x ∈ zs ↔ atL s x ≠ atL t x) := fun x => (hmem x).trans (HMm.out x)
      have HB3 : Hid (Below w.heap.size w W3) := below3 HBr.out hb3
      clear hcs hpw hmem hb3 hRs HMm
      go_wp2
      go_ret
      exact ⟨g, cap, zs, rfl, HC.out, HPw.out, HMem.out, hl, by have := HBr.out.size; omega, hg2, HB3.out⟩
end Go.Proofs.Ytbnbbelkddbndaa
