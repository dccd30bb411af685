/- The program's desk: what it holds as a list, rising; for a desk that holds fewer than a million inodes. -/
import Derived.Test.YtpghalekcgnefaaDk1
import Derived.Test.YtpghalekcgnefaaLst
import Derived.Test.YtpghalekcgnefaaShelf
import Derived.Maps.RangeWalk
namespace Go.Proofs.Ytpghalekcgnefaa
open Go.RowKit Go.Maps
/-- What cmp.Compare says. -/
def cmpI (x y : Int) : Int := if x < y then -1 else if y < x then 1 else 0
theorem nan_ok (x : Int) (w : World) : Calls Try.prog 34 #[.int .i64 x] w fun e w' => e = .returned (.bool false) ∧ w' = w := by
  go_enter Try.func34, Try.ntmps34
  go_wp2
  go_ret
  exact ⟨by simp, rfl⟩
theorem compare_ok (x y : Int) (w : World) : Calls Try.prog 31 #[.int .i64 x, .int .i64 y] w fun e w' => e = .returned (.int .i64 (cmpI x y)) ∧ w' = w := by
  unfold cmpI
  by_cases h1 : x < y
  · rw [if_pos h1]
    have g1 : decide (x < y) = true := decide_eq_true h1
    go_enter Try.func31, Try.ntmps31
    go_wp2_with (first | (go_at_call 34; refine (nan_ok _ _).mono ?_; rintro e W ⟨rfl, rfl⟩))
    go_ret
    exact ⟨rfl, rfl⟩
  · have g1 : decide (x < y) = false := decide_eq_false h1
    rw [if_neg h1]
    by_cases h2 : y < x
    · rw [if_pos h2]
      have g2 : decide (y < x) = true := decide_eq_true h2
      go_enter Try.func31, Try.ntmps31
      go_wp2_with (first | (go_at_call 34; refine (nan_ok _ _).mono ?_; rintro e W ⟨rfl, rfl⟩))
      go_ret
      exact ⟨rfl, rfl⟩
    · rw [if_neg h2]
      have g2 : decide (y < x) = false := decide_eq_false h2
      go_enter Try.func31, Try.ntmps31
      go_wp2_with (first | (go_at_call 34; refine (nan_ok _ _).mono ?_; rintro e W ⟨rfl, rfl⟩))
      go_ret
      exact ⟨rfl, rfl⟩
open Go.Shelf Go.Lib Go.Sort in
theorem less_ok (x y : Int × Int) (W : World) : Calls Try.prog 30 #[.agg #[.int .i64 x.1, .int .i64 x.2], .agg #[.int .i64 y.1, .int .i64 y.2]] W fun e w' => e = .returned (.int .i64 (cmpI x.1 y.1)) ∧ ∃ q os', w' = grow (W.drewN q) os' := by
  have hcon := fun W' => compare_ok x.1 y.1 W'
  generalize cmpI x.1 y.1 = r at hcon ⊢
  go_enter Try.func30, Try.ntmps30
  go_wp2_with (first | (go_at_call 31; refine (hcon _).mono ?_; rintro e w' ⟨rfl, rfl⟩))
  go_ret
  exact ⟨rfl, 0, _, by rw [alloc_eq_grow, alloc_eq_grow, grow_grow]; rfl⟩
open Go.Shelf Go.Lib Go.Sort in
theorem lt_cmp (x y : Int × Int) : ltOf (fun x y : Int × Int => cmpI x.1 y.1) x y = decide (x.1 < y.1) := by
  unfold ltOf cmpI
  by_cases h1 : x.1 < y.1
  · simp [h1]
  · by_cases h2 : y.1 < x.1 <;> simp [h1, h2]
open Go.Shelf Go.Lib Go.Sort in
theorem swo_cmp : SWO (ltOf fun x y : Int × Int => cmpI x.1 y.1) where
  irrefl x := by rw [lt_cmp]; simp
  trans x y z h1 h2 := by rw [lt_cmp] at *; simp at *; omega
  ntrans x y z h1 h2 := by rw [lt_cmp] at *; simp at *; omega
theorem ris_ext : ∀ {A B : List (Int × Int)}, Ris A → Ris B → (∀ p, p ∈ A ↔ p ∈ B) → A = B
  | [], [], _, _, _ => rfl
  | [], b :: B, _, _, h => by have := (h b).2 (by simp); cases this
  | a :: A, [], _, _, h => by have := (h a).1 (by simp); cases this
  | a :: A, b :: B, h1, h2, h => by
    obtain ⟨a1, a2⟩ := List.pairwise_cons.1 h1
    obtain ⟨b1, b2⟩ := List.pairwise_cons.1 h2
    have e : a = b := by
      rcases List.mem_cons.1 ((h a).1 (by simp)) with e | m1
      · exact e
      · rcases List.mem_cons.1 ((h b).2 (by simp)) with e | m2
        · exact e.symm
        · have := b1 a m1
          have := a1 b m2
          omega
    subst e
    rw [ris_ext a2 b2 fun p => ?_]
    constructor
    · intro hp
      rcases List.mem_cons.1 ((h p).1 (List.mem_cons_of_mem _ hp)) with rfl | q
      · exact absurd (a1 _ hp) (by omega)
      · exact q
    · intro hp
      rcases List.mem_cons.1 ((h p).2 (List.mem_cons_of_mem _ hp)) with rfl | q
      · exact absurd (b1 _ hp) (by omega)
      · exact q
/-- What was met of a map. -/
structure Coll (L : List (Int × Int)) (left : Lit → Bool) (l : List (Int × Int)) : Prop where
  apart : l.Pairwise fun p q => p.1 ≠ q.1
  mem : ∀ p : Int × Int, p ∈ l ↔ p ∈ L ∧ left (.int .i64 p.1) = false
theorem Coll.start (L : List (Int × Int)) : Coll L (Maps.has (dM L)) [] := ⟨List.Pairwise.nil, fun p => by
  simp only [List.not_mem_nil, dM_has, false_iff, not_and]
  intro hp h
  cases e : getH L p.1 with
  | none => exact get_none e p hp rfl
  | some u => rw [e] at h; cases h⟩
theorem Coll.step {L : List (Int × Int)} (hr : Ris L) {left : Lit → Bool} {l : List (Int × Int)} (h : Coll L left l) {x c : Int} (hx : left (.int .i64 x) = true) (hat : ∀ zd, (dM L).atKey (.int .i64 x) zd = .lit (.int .i64 c)) :
    Coll L (fun z => left z && !z.sameKey (.int .i64 x)) (l ++ [(x, c)]) := by
  have hm : (x, c) ∈ L := by
    have h1 := Maps.has_true_of_atKey hat
    rw [dM_has] at h1
    obtain ⟨u, hu⟩ := Option.isSome_iff_exists.1 h1
    have h2 := hat (.lit (.int .i64 0))
    rw [dM_at, hu] at h2
    injection h2 with h2
    injection h2 with _ h2
    simp only [Option.getD_some] at h2
    rw [← h2]
    exact get_some hu
  refine ⟨List.pairwise_append.2 ⟨h.apart, List.pairwise_singleton _ _, fun p hp q hq => ?_⟩, fun p => ?_⟩
  · simp only [List.mem_singleton] at hq
    subst hq
    intro e
    have := ((h.mem p).1 hp).2
    rw [e, hx] at this
    cases this
  · simp only [List.mem_append, List.mem_singleton, h.mem, Lit.sameKey, Bool.and_eq_false_iff, Bool.not_eq_false', decide_eq_true_eq, true_and]
    constructor
    · rintro (⟨h1, h2⟩ | rfl)
      · exact ⟨h1, .inl h2⟩
      · exact ⟨hm, .inr rfl⟩
    · rintro ⟨h1, h2 | h2⟩
      · exact .inl ⟨h1, h2⟩
      · exact .inr (ris_inj hr h1 hm h2)
theorem Coll.sorted {L l d : List (Int × Int)} {left : Lit → Bool} (hr : Ris L) (h : Coll L left l) (h0 : ∀ k, left k = false) (hp : d.Perm l) (hs : d.Pairwise fun p q => ¬ q.1 < p.1) : d = L := by
  have ha : d.Pairwise fun p q => p.1 ≠ q.1 := (hp.pairwise_iff fun q e => q e.symm).2 h.apart
  refine ris_ext ?_ hr fun p => ?_
  · exact (List.pairwise_and_iff.2 ⟨hs, ha⟩).imp fun ⟨a, b⟩ => by omega
  · rw [hp.mem_iff, h.mem]
    simp [h0]
theorem nodup_len {α : Type} [DecidableEq α] : ∀ (l L : List α), l.Nodup → (∀ p ∈ l, p ∈ L) → l.length ≤ L.length
  | [], L, _, _ => by simp
  | a :: r, L, hn, hs => by
    obtain ⟨h1, h2⟩ := List.nodup_cons.1 hn
    have ha : a ∈ L := hs a (by simp)
    have := nodup_len r (L.erase a) h2 fun p hp => (List.mem_erase_of_ne fun e => h1 (by rw [← e]; exact hp)).2 (hs p (List.mem_cons_of_mem _ hp))
    rw [List.length_erase_of_mem ha] at this
    have : 0 < L.length := List.length_pos_of_mem ha
    rw [List.length_cons]
    omega
theorem Coll.len {L l : List (Int × Int)} {left : Lit → Bool} (h : Coll L left l) : l.length ≤ L.length := by
  have hn : l.Nodup := h.apart.imp fun q e => q (by rw [e])
  exact nodup_len l L hn fun p hp => ((h.mem p).1 hp).1
end Go.Proofs.Ytpghalekcgnefaa
