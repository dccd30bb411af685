/- mayBe of past: whether an image, its ops and a number may be; no condition but that lists are not longer than lists can be. -/
import Derived.Test.YtbnbbelkddbndaaSure
import Derived.Deep.QuietTactic
import Derived.BigQuiet
namespace Go.Proofs.Ytbnbbelkddbndaa
open Go.RowKit
theorem belowN {B : Nat} {w W : World} (h : Below B w W) (q : Nat) : Below B w (W.drewN q) := h.trans ⟨rfl, rfl, rfl, Nat.le_refl _, fun _ _ => rfl⟩
/-- May an op be of an image of n blocks? -/
def opOk (n : Int) (r : Rec) : Bool := decide (r.kind = 2) || (decide (r.kind = 1) && !decide (r.pos < 0) && !decide (r.pos ≥ n))
def pmayB (n : Int) (l : List Cel) (ops : List Rec) (k : Int) : Bool := mayB n l && !decide (k < 0) && !decide (k > ops.length) && ops.all (opOk n)
theorem pmay_parts {n : Int} {l : List Cel} {ops : List Rec} {k : Int} (h : pmayB n l ops k = true) : mayB n l = true ∧ 0 ≤ k ∧ k ≤ ops.length ∧ ∀ r ∈ ops, opOk n r = true := by
  unfold pmayB at h
  simp only [Bool.and_eq_true, Bool.not_eq_true', decide_eq_false_iff_not, List.all_eq_true] at h
  exact ⟨h.1.1.1, by omega, by omega, h.2⟩
theorem opOk_write {n : Int} {r : Rec} (h : opOk n r = true) (hk : r.kind ≠ 2) : r.kind = 1 ∧ 0 ≤ r.pos ∧ r.pos < n := by
  unfold opOk at h
  simp [hk] at h
  exact ⟨h.1.1, by omega, by omega⟩
set_option maxRecDepth 20000 in
set_option maxHeartbeats 2000000 in
theorem maybe_any (n : Int) (l : List Cel) (p : Option Addr) (cap : Nat) (ops : List Rec) (po : Option Addr) (co : Nat) (k : Int) (w : World) (hl : l.length < 9223372036854775807) (h : ImgAt w p l) (hlo : ops.length < 9223372036854775807) (ho : OpsAt w po ops) :
    Calls Try.prog 53 #[.agg #[.int .i64 n, .slice p l.length cap], .slice po ops.length co, .int .i64 k] w fun e w' => e = .returned (.bool (pmayB n l ops k)) ∧ Below w.heap.size w w' := by
  have hB := below_new w (.cells #[.int .i64 n, .slice p l.length cap] 24)
  have hG := heap_alloc_new w (.cells #[.int .i64 n, .slice p l.length cap] 24)
  have hW := whole_any n l p cap _ hl (h.later hB)
  have HO : Hid (OpsAt w po ops) := ho
  clear h ho
  cases hm : mayB n l
  · have e0 : wholeE n l = 2 := by unfold wholeE; rw [hm]; rfl
    have e1 : pmayB n l ops k = false := by unfold pmayB; rw [hm]; rfl
    rw [e0] at hW
    rw [e1]
    go_enter Try.func53, Try.ntmps53
    go_wp2_with (go_at_call 22; refine hW.mono ?_; rintro e W1 ⟨rfl, hb1⟩)
    go_ret
    exact ⟨rfl, below_next hB hb1⟩
  · have e0 : wholeE n l = 0 := by unfold wholeE; rw [hm]; rfl
    rw [e0] at hW
    by_cases hk0 : k < 0
    · have e1 : pmayB n l ops k = false := by unfold pmayB; simp [hk0]
      rw [e1]
      go_enter Try.func53, Try.ntmps53
      go_wp2_with (go_at_call 22; refine hW.mono ?_; rintro e W1 ⟨rfl, hb1⟩)
      go_ret
      exact ⟨rfl, below_next hB hb1⟩
    · by_cases hk1 : k > ops.length
      · have e1 : pmayB n l ops k = false := by unfold pmayB; simp [hk1]
        rw [e1]
        go_enter Try.func53, Try.ntmps53
        go_wp2_with (go_at_call 22; refine hW.mono ?_; rintro e W1 ⟨rfl, hb1⟩)
        go_ret
        exact ⟨rfl, below_next hB hb1⟩
      · have hR0 : pmayB n l ops k = (ops.drop 0).all (opOk n) := by unfold pmayB; rw [hm]; simp [hk0, hk1]
        have HR : Hid (pmayB n l ops k = (ops.drop 0).all (opOk n)) := hR0
        clear hR0
        generalize pmayB n l ops k = res at *
        go_enter Try.func53, Try.ntmps53
        go_wp2_with (go_at_call 22; fail)
        refine hW.mono ?_
        rintro e W1 ⟨rfl, hb1⟩
        have HG1 : Hid (W1.heap[w.heap.size]? = some (.cells #[.int .i64 n, .slice p l.length cap] 24)) := heap_kept hG hb1
        have HB1 : Hid (Below w.heap.size w W1) := below_next hB hb1
        clear hW hb1 hB hG
        go_wp2
        go_loopw [23] (fun s23 wx => ∃ j : Nat, j ≤ ops.length ∧ s23 = .int .i64 j ∧ Hid (wx.heap[w.heap.size]? = some (.cells #[.int .i64 n, .slice p l.length cap] 24)) ∧ Hid (Below w.heap.size w wx) ∧ Hid (res = (ops.drop j).all (opOk n))) (fun s23 _ => ops.length - (intOf s23).toNat)
        case atStart => exact ⟨0, by omega, rfl, HG1.out, HB1.out, HR.out⟩
        case round =>
          obtain ⟨j, hj, rfl, HG, HB, HR2⟩ := hrel
          clear HR HG1 HB1
          by_cases hj2 : (j : Int) < ops.length
          · have hc : ops[j]? = some ops[j] := List.getElem?_eq_getElem (by omega)
            obtain ⟨b, off, rfl, hlt, hC⟩ := HO.out (by omega)
            have hd : ops.drop j = ops[j] :: ops.drop (j + 1) := List.drop_eq_getElem_cons (by omega)
            generalize ops[j] = r at hc hd
            obtain ⟨q1, q2, _⟩ := (hC.later HB.out hlt) j r hc
            have hR := HR2.out
            rw [hd, List.all_cons] at hR
            obtain ⟨T, hT⟩ : ∃ T, (ops.drop (j + 1)).all (opOk n) = T := ⟨_, rfl⟩
            rw [hT] at hR
            have HT : Hid ((ops.drop (j + 1)).all (opOk n) = T) := hT
            clear hT
            have i0 : wr.cell? ⟨w.heap.size, 0, none⟩ = some (.int .i64 n) := Joins.cell_of_block HG.out 0
            unfold opOk at hR
            obtain ⟨kd, x, f⟩ := r
            simp only at hR q1 q2
            clear hd hc HR2 hC
            by_cases h2 : kd = 2
            · subst h2
              have HR3 : Hid (res = (ops.drop (j + 1)).all (opOk n)) := by
                have e : res = (ops.drop (j + 1)).all (opOk n) := by rw [HT.out, hR]; simp
                exact e
              clear hR q2
              go_wp2
              exact ⟨⟨j + 1, by omega, by go_num, HG.out, HB.out, HR3.out⟩, by simp [intOf]; omega⟩
            · by_cases h1 : kd = 1
              · subst h1
                by_cases hx0 : x < 0
                · have hr0 : res = false := by rw [hR]; simp [hx0]
                  have g0 : decide (x < 0) = true := decide_eq_true hx0
                  clear hR
                  subst hr0
                  go_wp2
                  go_quiet (fail)
                  go_wp2
                  go_ret
                  exact ⟨rfl, (belowN HB.out _)⟩
                · by_cases hx1 : x ≥ n
                  · have hr0 : res = false := by rw [hR]; simp [hx1]
                    have g0 : decide (x < 0) = false := decide_eq_false hx0
                    have g1 : decide (n ≤ x) = true := decide_eq_true hx1
                    clear hR
                    subst hr0
                    go_wp2
                    go_quiet (fail)
                    go_wp2
                    go_ret
                    exact ⟨rfl, (belowN HB.out _)⟩
                  · have g0 : decide (x < 0) = false := decide_eq_false hx0
                    have g1 : decide (n ≤ x) = false := decide_eq_false hx1
                    have HR3 : Hid (res = (ops.drop (j + 1)).all (opOk n)) := by
                      have e : res = (ops.drop (j + 1)).all (opOk n) := by rw [HT.out, hR]; simp [hx0, hx1]
                      exact e
                    clear hR
                    go_wp2
                    go_quiet (fail)
                    go_wp2
                    exact ⟨⟨j + 1, by omega, by go_num, HG.out, belowN HB.out _, HR3.out⟩, by simp [intOf]; omega⟩
              · have hr0 : res = false := by rw [hR]; simp [h2, h1]
                have hd2 : decide (kd = 2) = false := decide_eq_false h2
                have hd1 : decide (kd = 1) = false := decide_eq_false h1
                clear hR
                subst hr0
                go_wp2
                go_ret
                exact ⟨rfl, HB.out⟩
          · obtain rfl : j = ops.length := by omega
            have hr0 : res = true := by rw [HR2.out, List.drop_length]; rfl
            subst hr0
            go_wp2
            go_ret
            exact ⟨rfl, HB.out⟩
end Go.Proofs.Ytbnbbelkddbndaa
