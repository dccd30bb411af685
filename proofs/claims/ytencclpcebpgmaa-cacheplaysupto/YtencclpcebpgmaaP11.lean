/- The document's cache: Flush; lists up to a million, every number once. -/
import Derived.Test.YtencclpcebpgmaaP10
import Derived.Test.YtencclpcebpgmaaP7
namespace Go.Proofs.Ytencclpcebpgmaa
open Go.RowKit Go.Maps
variable {w w' : World} {g d n : Nat} {v : Value} {s : CSt} {R : RL} {t : RD}
def flE (n : Nat) (s : CSt) (t : RD) (k : Int) : Int := if wrE n t k = 0 then (match atR s.row k with | some h => if h.fast then wtE n t k else 0 | none => 0) else wrE n t k
def flC (n : Nat) (s : CSt) (t : RD) (k : Int) : CSt := if wrE n t k = 0 then (match atR s.row k with | some h => if h.fast ∧ wtE n t k = 0 then { s with row := unfast s.row k } else s | none => s) else s
def flD (n : Nat) (s : CSt) (t : RD) (k : Int) : RD := if wrE n t k = 0 then (match atR s.row k with | some h => if h.fast then wtV n t k h.dat else t | none => t) else t
theorem unfast_none {k : Int} : ∀ (r : List Hld), (∀ x ∈ r, x.pos ≠ k) → unfast r k = r
  | [], _ => rfl
  | a :: t, h => by
    unfold unfast
    rw [List.map_cons, if_neg (h a (List.mem_cons_self ..))]
    exact congrArg (a :: ·) (unfast_none t fun x hx => h x (List.mem_cons_of_mem _ hx))
theorem unfast_set {k : Int} : ∀ (r : List Hld) (i : Nat) (x : Hld), (r.map (·.pos)).Nodup → r[i]? = some x → x.pos = k → unfast r k = r.set i ⟨x.pos, false, x.dat⟩
  | [], i, x, _, h, _ => by simp at h
  | a :: t, 0, x, hn, h, hk => by
    have e : a = x := by simpa using h
    subst e
    rw [List.map_cons, List.nodup_cons] at hn
    have ht := unfast_none (k := k) t fun y hy q => hn.1 (List.mem_map.2 ⟨y, hy, q.trans hk.symm⟩)
    unfold unfast at ht ⊢
    rw [List.map_cons, if_pos hk, ht, List.set_cons_zero]
  | a :: t, i + 1, x, hn, h, hk => by
    rw [List.map_cons, List.nodup_cons] at hn
    have hx : t[i]? = some x := by simpa using h
    have ha : a.pos ≠ k := fun q => hn.1 (List.mem_map.2 ⟨x, List.mem_of_getElem? hx, hk.trans q.symm⟩)
    have ht := unfast_set (k := k) t i x hn.2 hx hk
    unfold unfast at ht ⊢
    rw [List.map_cons, if_neg ha, ht, List.set_cons_succ]
theorem enH_slow (x : Hld) : enH ⟨x.pos, false, x.dat⟩ = (enH x).set 1025 (.bool false) := by
  have hl := lenK x.dat
  unfold enH
  simp only
  generalize enK x.dat = l at *
  rw [List.set_cons_succ, List.set_append_right _ _ (by omega), hl]
  rfl
theorem RCk.slow (h : RCk w g d v s) {i b c : Nat} {x : Hld} (hx : s.row[i]? = some x) (hv : v = .slice (some ⟨b, 0, none⟩) s.row.length c) :
    RCk (w.setCell ⟨b, i * 1026 + 1025, none⟩ (.bool false)) g d v { s with row := s.row.set i ⟨x.pos, false, x.dat⟩ } ∧ Fr (rcHas g v) w (w.setCell ⟨b, i * 1026 + 1025, none⟩ (.bool false)) ∧ w.frozen? ⟨b, i * 1026 + 1025, none⟩ = false := by
  subst hv
  obtain ⟨_, _, cur, hcur⟩ := own_heap h.own
  refine ⟨⟨?_, ?_⟩, ?_, Joins.unfrozen_of_block hcur _⟩
  · exact (Below.heap_setCell w _ _ g (by show g ≠ b; exact fun q => own_ne h.own h.row (by decide) (by rw [q]; rfl))).trans h.row
  · have := own_cell (u := .bool false) lenH h.own hx (by omega) (enH_slow x)
    show World.ownsRow _ 0 103 1026 _ (s.row.set i _).length _
    rw [List.length_set]
    exact this
  · exact (Fr.setCell w b _ _).mono fun k _ (q : k = b) => (.inr (by rw [q]; rfl) : rcHas g _ k)
set_option maxRecDepth 20000 in
set_option maxHeartbeats 1000000 in
theorem flush6 (h : RPr w g R v n s t) (hn : s.row.length ≤ 1000000) (hs : Small t) (hnd : (s.row.map (·.pos)).Nodup) (k : Int) : Calls Try.prog 46 #[.pointer (some ⟨g, 0, none⟩), .int .i64 k] w fun e w' => e = .returned (.int .i64 (flE n s t k)) ∧ RPr w' g R v n (flC n s t k) (flD n s t k) ∧ Fr (fun i => rcHas g v i ∨ R.has i) w w' := by
  have c0 : w.cell? ⟨g, 0, none⟩ = some (.pointer (some ⟨R.g, 0, none⟩)) := h.c.cell 0
  have c2 : w.cell? ⟨g, 2, none⟩ = some v := h.c.cell 2
  have hW := wrong6 h.d k
  have hFi := find6 h.c k hn
  have HP := hidd h
  unfold flE flC flD
  by_cases hz : wrE n t k = 0
  · rw [if_pos hz, if_pos hz, if_pos hz]
    rw [hz] at hW
    rcases idxR_gone s.row k with ⟨e1, e2, e3⟩ | ⟨i, e1, e2, e3, e4, e5⟩
    · rw [e1] at hFi
      rw [e2]
      simp only
      clear hz e1 e2 e3 h
      go_enter Try.func46, Try.ntmps46
      go_wp2_with (first | (go_at_call 59; refine hW.mono ?_; rintro e W ⟨rfl, rfl⟩) | (go_at_call 60; refine hFi.mono ?_; rintro e W ⟨rfl, rfl⟩))
      go_ret
      exact ⟨rfl, HP.out, Fr.refl _ _⟩
    · rw [e1] at hFi
      obtain ⟨x, hx⟩ := Option.isSome_iff_exists.1 e5
      rw [hx] at e4
      rw [hx]
      simp only
      have hxk : x.pos = k := by
        unfold atR at hx
        have := List.find?_some hx
        simpa using this
      obtain ⟨b, c, hv, ha⟩ := h.c.at e4
      have hp := ha.fast
      have hd := ha.dat
      have hi0 : ¬ ((i : Int) < 0) := by omega
      have hi3 : (i : Int) < s.row.length := by omega
      subst hv
      cases hf : x.fast
      · simp only [Bool.false_eq_true, if_false, false_and]
        rw [hf] at hp
        clear hz e1 e2 e3 e4 e5 h hx ha hd hf
        go_enter Try.func46, Try.ntmps46
        go_wp2_with (first | (go_at_call 59; refine hW.mono ?_; rintro e W ⟨rfl, rfl⟩) | (go_at_call 60; refine hFi.mono ?_; rintro e W ⟨rfl, rfl⟩))
        go_ret
        exact ⟨rfl, HP.out, Fr.refl _ _⟩
      · simp only [if_true, true_and]
        rw [hf] at hp
        have HWr := hidd (write6 h.d.drew hs k x.dat)
        have HU := hidd (unfast_set s.row i x hnd e4 hxk)
        have HE4 := hidd e4
        have HFf := hidd hf
        clear hz e1 e2 e3 e4 e5 h hx ha hf
        by_cases hwe : wtE n t k = 0
        · rw [if_pos hwe]
          rw [hwe] at HWr ⊢
          clear hwe
          generalize hfd : x.dat = f at *
          go_enter Try.func46, Try.ntmps46
          go_wp2_with (first | (go_at_call 59; refine hW.mono ?_; rintro e W ⟨rfl, rfl⟩) | (go_at_call 60; refine hFi.mono ?_; rintro e W ⟨rfl, rfl⟩))
          go_still_tail 13, (by kernel_rfl)
          refine wpStill_loadM rfl _ rfl b (i * 1026 + 1) rfl f hd ?_
          repeat still_step
          refine wpStill_nil ?_
          change wpList _ _ _ _ _ (World.drew _)
          go_wp2_with (go_at_call 43; fail)
          refine HWr.out.mono ?_
          rintro e W2 ⟨rfl, hD, hF⟩
          have hPd : RPr W.drew g R (.slice (some ⟨b, 0, none⟩) s.row.length c) n s t := ⟨HP.out.c.drew, HP.out.d.drew⟩
          have hP2 := hPd.ofD hD hF
          have hFW : Fr (fun i => rcHas g (.slice (some ⟨b, 0, none⟩) s.row.length c) i ∨ R.has i) W W2 := (Fr.drew W).trans (hF.mono fun i _ q => .inr q) fun _ _ q => q
          obtain ⟨hC2, hF2, hz2⟩ := hP2.c.slow HE4.out rfl
          have d2 : W2.cell? ⟨g, 2, none⟩ = some (.slice (some ⟨b, 0, none⟩) s.row.length c) := hP2.c.cell 2
          have hp2 : W2.cell? ⟨b, i * 1026 + 1025, none⟩ = some (.bool true) := by
            obtain ⟨b', c', hv', ha'⟩ := hP2.c.at HE4.out
            injection hv' with q1
            injection q1 with q1
            injection q1 with q1
            subst q1
            have := ha'.fast
            rwa [HFf.out] at this
          have HC : Hid (RPr (W2.setCell ⟨b, i * 1026 + 1025, none⟩ (.bool false)) g R (.slice (some ⟨b, 0, none⟩) s.row.length c) n ⟨s.size, unfast s.row k⟩ (wtV n t k f)) := by
            have := hP2.ofC hC2 hF2
            rw [hfd, ← HU.out] at this
            exact this
          have HF := hidd (hFW.trans (hF2.mono fun i _ q => (.inl q : rcHas g (.slice (some ⟨b, 0, none⟩) s.row.length c) i ∨ R.has i)) fun _ _ q => q)
          clear hD hF hPd hP2 hFW hC2 hF2 HWr hW hFi c0 c2 hp hd
          go_wp2
          go_ret
          exact ⟨rfl, HC.out, HF.out⟩
        · rw [if_neg hwe]
          have hne : (wtE n t k == 0) = false := by simp [hwe]
          clear hwe
          generalize wtE n t k = r at *
          generalize hfd : x.dat = f at *
          go_enter Try.func46, Try.ntmps46
          go_wp2_with (first | (go_at_call 59; refine hW.mono ?_; rintro e W ⟨rfl, rfl⟩) | (go_at_call 60; refine hFi.mono ?_; rintro e W ⟨rfl, rfl⟩))
          go_still_tail 13, (by kernel_rfl)
          refine wpStill_loadM rfl _ rfl b (i * 1026 + 1) rfl f hd ?_
          repeat still_step
          refine wpStill_nil ?_
          change wpList _ _ _ _ _ (World.drew _)
          go_wp2_with (go_at_call 43; fail)
          refine HWr.out.mono ?_
          rintro e W2 ⟨rfl, hD, hF⟩
          have hPd : RPr W.drew g R (.slice (some ⟨b, 0, none⟩) s.row.length c) n s t := ⟨HP.out.c.drew, HP.out.d.drew⟩
          have hP2 := hPd.ofD hD hF
          have hFW : Fr (fun i => rcHas g (.slice (some ⟨b, 0, none⟩) s.row.length c) i ∨ R.has i) W W2 := (Fr.drew W).trans (hF.mono fun i _ q => .inr q) fun _ _ q => q
          have HC := hidd hP2
          have HF := hidd hFW
          clear hD hF hPd hP2 hFW HWr hW hFi c0 c2 hp hd
          go_wp2
          go_ret
          exact ⟨rfl, HC.out, HF.out⟩
  · rw [if_neg hz, if_neg hz, if_neg hz]
    have hne : (wrE n t k != 0) = true := by simp [hz]
    clear hFi h
    generalize wrE n t k = r at *
    go_enter Try.func46, Try.ntmps46
    go_wp2_with (first | (go_at_call 59; refine hW.mono ?_; rintro e W ⟨rfl, rfl⟩))
    go_ret
    exact ⟨rfl, HP.out, Fr.refl _ _⟩
end Go.Proofs.Ytencclpcebpgmaa
