/- What the law's books of 20 numbers say of a desk's list; a list of calls that came in; Pick; no condition. -/
import Derived.Test.YtpghalekcgnefaaDk4
import Derived.Test.YtpghalekcgnefaaRowN
namespace Go.Proofs.Ytpghalekcgnefaa
open Go.RowKit Go.Maps
/-- How many of 1 to k - 1 are above 0. -/
def heldN (F : Nat → Int) : Nat → Nat
  | 0 => 0
  | k + 1 => heldN F k + (if 1 ≤ k ∧ 0 < F k then 1 else 0)
theorem countP_succ (L : List (Int × Int)) (k : Nat) : L.countP (fun p => decide (p.1 < ((k + 1 : Nat) : Int))) = L.countP (fun p => decide (p.1 < (k : Int))) + L.countP (fun p => decide (p.1 = (k : Int))) := by
  induction L with
  | nil => rfl
  | cons a r ih =>
    simp only [List.countP_cons, ih, decide_eq_true_eq]
    split <;> split <;> split <;> omega
theorem countP_at {L : List (Int × Int)} (h : Ris L) (k : Int) : L.countP (fun p => decide (p.1 = k)) = if (getH L k).isSome then 1 else 0 := by
  induction L with
  | nil => rfl
  | cons a r ih =>
    obtain ⟨h1, h2⟩ := List.pairwise_cons.1 h
    rw [List.countP_cons]
    by_cases e : a.1 = k
    · have : r.countP (fun p => decide (p.1 = k)) = 0 := by
        rw [List.countP_eq_zero]
        intro p hp
        have := h1 p hp
        simp
        omega
      simp [this, e, getH]
    · rw [ih h2]
      rw [show getH (a :: r) k = getH r k by unfold getH; rw [List.find?_cons_of_neg (by simpa using e)]]
      simp [e]
/-- The books say what the desk holds. -/
structure Cnt (L : List (Int × Int)) (F : Nat → Int) : Prop where
  key : ∀ p ∈ L, p.1 ≤ 19
  val : ∀ k : Nat, 1 ≤ k → k < 20 → F k = (getH L k).getD 0
theorem Cnt.held {m : Int} {L : List (Int × Int)} {F : Nat → Int} {c : Nat} (h : Cnt L F) (ho : Dok m L c) : heldN F 20 = L.length := by
  have key : ∀ k, k ≤ 20 → heldN F k = L.countP (fun p => decide (p.1 < (k : Int))) := by
    intro k
    induction k with
    | zero =>
      intro _
      rw [heldN, eq_comm, List.countP_eq_zero]
      intro p hp
      have := (ho.key p hp).1
      simp
      omega
    | succ k ih =>
      intro hk
      rw [heldN, countP_succ, ih (by omega), countP_at ho.ris]
      congr 1
      by_cases h1 : 1 ≤ k
      · rw [h.val k h1 (by omega)]
        cases e : getH L (k : Int) with
        | none => simp
        | some u =>
          have := (ho.val _ (get_some e)).1
          simp only at this
          simp [h1]
          omega
      · have e : getH L (k : Int) = none := by
          cases e : getH L (k : Int) with
          | none => rfl
          | some u =>
            have := (ho.key _ (get_some e)).1
            simp only at this
            omega
        simp [h1, e]
  rw [key 20 (by omega)]
  rw [List.countP_eq_length]
  intro p hp
  have := h.key p hp
  simp
  omega
theorem Cnt.start : Cnt [] nought := ⟨by simp, fun k _ _ => rfl⟩
theorem cnt_hold {m : Int} {L : List (Int × Int)} {F : Nat → Int} {c : Nat} (h : Cnt L F) (ho : Dok m L c) {n : Nat} (h1 : 1 ≤ n) (h2 : n < 20) (he : holdE m L n = 0) : Cnt (holdL m L n) (updN F n (F n + 1)) := by
  have hn : ¬ (n : Int) < 1 := by omega
  unfold holdE at he
  unfold holdL
  rw [if_neg hn] at he ⊢
  have hv := h.val n h1 h2
  cases e : getH L (n : Int) with
  | some u =>
    rw [e] at hv
    simp only [Option.getD_some] at hv
    refine ⟨fun p hp => ?_, fun k hk1 hk2 => ?_⟩
    · rcases (put_mem _ _ _ _).1 hp with rfl | q
      · simp only; omega
      · exact h.key p q.1
    · unfold updN
      by_cases ek : k = n
      · subst ek; rw [if_pos rfl, get_put_same ho.ris, hv]; rfl
      · rw [if_neg ek, get_put_other ho.ris _ (by omega), h.val k hk1 hk2]
  | none =>
    rw [e] at he hv
    simp only [Option.getD_none] at he hv
    by_cases q : (L.length : Int) = m
    · rw [if_pos q] at he; cases he
    · simp only [if_neg q]
      refine ⟨fun p hp => ?_, fun k hk1 hk2 => ?_⟩
      · rcases (put_mem _ _ _ _).1 hp with rfl | q
        · simp only; omega
        · exact h.key p q.1
      · unfold updN
        by_cases ek : k = n
        · subst ek; rw [if_pos rfl, get_put_same ho.ris, hv]; rfl
        · rw [if_neg ek, get_put_other ho.ris _ (by omega), h.val k hk1 hk2]
theorem holdE_cases {m : Int} {L : List (Int × Int)} {F : Nat → Int} (h : Cnt L F) {n : Nat} (h1 : 1 ≤ n) (h2 : n < 20) : holdE m L n = 0 ∨ (holdE m L n = 15 ∧ F n = 0 ∧ fullB m L = true ∧ holdL m L n = L) := by
  have hn : ¬ (n : Int) < 1 := by omega
  have hv := h.val n h1 h2
  unfold holdE holdL fullB
  rw [if_neg hn, if_neg hn]
  cases e : getH L (n : Int) with
  | some u => exact .inl rfl
  | none =>
    rw [e] at hv
    by_cases q : (L.length : Int) = m
    · simp only [if_pos q]
      exact .inr ⟨trivial, hv, by simpa using q, trivial⟩
    · simp only [if_neg q]
      exact .inl trivial
theorem drop_cases {m : Int} {L : List (Int × Int)} {F : Nat → Int} {c : Nat} (h : Cnt L F) (ho : Dok m L c) {n : Nat} (h1 : 1 ≤ n) (h2 : n < 20) :
    (dropE L n = 0 ∧ 1 ≤ F n ∧ F n ≤ c ∧ dropB L n = (F n == 1) ∧ Cnt (dropL L n) (updN F n (F n - 1))) ∨ (dropE L n = 2 ∧ F n = 0 ∧ dropB L n = false ∧ dropL L n = L) := by
  have hv := h.val n h1 h2
  unfold dropE dropB dropL
  cases e : getH L (n : Int) with
  | none =>
    rw [e] at hv
    exact .inr ⟨rfl, hv, rfl, rfl⟩
  | some u =>
    have hu := ho.val _ (get_some e)
    simp only at hu
    rw [e] at hv
    simp only [Option.getD_some] at hv
    refine .inl ⟨rfl, by omega, by omega, ?_, ?_⟩
    · rw [hv]
      by_cases q : u = 1
      · subst q; decide
      · have : 1 < u := by omega
        simp [this, q]
    · by_cases q : 1 < u
      · simp only [if_pos q]
        refine ⟨fun p hp => ?_, fun k hk1 hk2 => ?_⟩
        · rcases (put_mem _ _ _ _).1 hp with rfl | q
          · simp only; omega
          · exact h.key p q.1
        · unfold updN
          by_cases ek : k = n
          · subst ek; rw [if_pos rfl, get_put_same ho.ris, hv]; rfl
          · rw [if_neg ek, get_put_other ho.ris _ (by omega), h.val k hk1 hk2]
      · simp only [if_neg q]
        refine ⟨fun p hp => h.key p ((del_mem _ _ _).1 hp).1, fun k hk1 hk2 => ?_⟩
        unfold updN
        by_cases ek : k = n
        · subst ek; rw [if_pos rfl, get_del_same, hv]; simp; omega
        · rw [if_neg ek, get_del_other ho.ris (by omega), h.val k hk1 hk2]
/-- A list of calls in memory. -/
def ActsAt (w : World) (p : Option Addr) (cs : List (Int × Int)) : Prop := 0 < cs.length → ∃ b off, p = some ⟨b, off, none⟩ ∧ b < w.heap.size ∧ ∀ j c, cs[j]? = some c → w.cell? ⟨b, off + j * 2, none⟩ = some (.int .i64 c.1) ∧ w.cell? ⟨b, off + j * 2 + 1, none⟩ = some (.int .i64 c.2)
theorem ActsAt.later {w W : World} {p : Option Addr} {l : List (Int × Int)} (h : ActsAt w p l) (hb : Below w.heap.size w W) : ActsAt W p l := fun h0 => by
  obtain ⟨b, off, h1, h2, h3⟩ := h h0
  exact ⟨b, off, h1, Nat.lt_of_lt_of_le h2 hb.size, fun j x hx => ⟨(hb.cell (p := ⟨b, off + j * 2, none⟩) h2).trans (h3 j x hx).1, (hb.cell (p := ⟨b, off + j * 2 + 1, none⟩) h2).trans (h3 j x hx).2⟩⟩
theorem pick_ok (i n : Int) (hn : 1 ≤ n ∧ n ≤ 1048576) (w : World) : Calls Try.prog 12 #[.int .i64 i, .int .i64 n] w fun e w' => e = .returned (.int .i64 (i % n)) ∧ w' = w := by
  have h0 : n ≠ 0 := by omega
  have hb : -n < Int.tmod i n ∧ Int.tmod i n < n := by
    have h1 := Int.natAbs_tmod i n
    have h2 : (Int.tmod i n).natAbs < n.natAbs := by
      rw [Int.natAbs_tmod]
      exact Nat.mod_lt _ (by omega)
    omega
  have hw : IntKind.i64.wrap (Int.tmod i n) = Int.tmod i n := by rw [IntKind.wrap_i64]; omega
  have hm : Int.tmod i n % n = i % n := by
    have h1 := Int.tmod_add_mul_tdiv i n
    have h2 : i % n = (Int.tmod i n + n * Int.tdiv i n) % n := by rw [h1]
    rw [h2, Int.add_mul_emod_self_left]
  by_cases hneg : Int.tmod i n < 0
  · have he : Int.tmod i n + n = i % n := by
      rw [← hm, ← Int.add_emod_right, Int.emod_eq_of_lt (by omega) (by omega)]
    have hw2 : IntKind.i64.wrap (Int.tmod i n + n) = Int.tmod i n + n := by rw [IntKind.wrap_i64]; omega
    rw [← he]
    clear hm he
    go_enter Try.func12, Try.ntmps12
    go_wp2
    go_ret
    exact ⟨rfl, rfl⟩
  · have he : Int.tmod i n = i % n := by rw [← hm, Int.emod_eq_of_lt (by omega) (by omega)]
    rw [← he]
    clear hm he
    go_enter Try.func12, Try.ntmps12
    go_wp2
    go_ret
    exact ⟨rfl, rfl⟩
/-- A row of 20 numbers. -/
def bkP (h : Nat) (F : Nat → Int) : Part := ⟨fun k => k = h, fun W => W.heap[h]? = some (.cells (rowN .i64 F 20) 3)⟩
theorem bkP_good (h : Nat) (F : Nat → Int) : (bkP h F).Good := fun _ _ hs _ q => (q h rfl).trans hs
theorem Sep.book {w W : World} {l : List Part} {h : Nat} {F : Nat → Int} (hs : Sep w W (bkP h F :: l)) (n : Nat) (x : Int) : Sep w (W.setCell ⟨h, n, none⟩ (.int .i64 x)) (bkP h (updN F n x) :: l) := by
  refine hs.turn (Fr.setCell W h n (.int .i64 x)) (fun k _ q => q) (bkP_good _ _) (setCell_rowN hs.head n x) ?_
  rintro k rfl
  have := (hs.headLt (k := k) rfl).2
  exact ⟨.inl rfl, by simpa using this⟩
end Go.Proofs.Ytpghalekcgnefaa
