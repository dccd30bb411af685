/- FdsLeast's two lists (of bools, of acts) as parts: gone on with, stored in, read; how they stand to a table; no condition but bounds. -/
import Derived.Test.YtbchbappdpbkiaaFdL0
namespace Go.Proofs.Ytbchbappdpbkiaa
open Go.RowKit Go.Maps
def beE (b : Bool) : List Value := [.bool b]
def acE (x : Ac) : List Value := [.int .i64 x.1, .int .i64 x.2.1, .int .i64 x.2.2.1, .int .i64 x.2.2.2]
theorem lenbe (x : Bool) : (beE x).length = 1 := rfl
theorem lenac (x : Ac) : (acE x).length = 4 := rfl
theorem onebe (x : Bool) : ∀ u ∈ beE x, u.oneCell' = true := fun u hu => by simp [beE] at hu; subst hu; rfl
theorem oneac (x : Ac) : ∀ u ∈ acE x, u.oneCell' = true := fun u hu => by
  simp [acE] at hu
  rcases hu with rfl | rfl | rfl | rfl <;> rfl
theorem infbe : (Try.prog.info? 4).map (fun i => (i.zero, i.size, i.bytes)) = some (some (.bool false), 1, 1) := by kernel_rfl
theorem infac : (Try.prog.info? 38).map (fun i => (i.zero, i.size, i.bytes)) = some (some (.agg #[.int .i64 0, .int .i64 0, .int .i64 0, .int .i64 0]), 4, 32) := by kernel_rfl
abbrev hP (v : Value) (H : List Bool) : Part := olP v 4 1 H.length (H.flatMap beE)
abbrev vP (v : Value) (V : List Ac) : Part := olP v 38 4 V.length (V.flatMap acE)
section
variable {w W : World} {l : List Part} {v : Value} {H : List Bool} {V : List Ac}
theorem sep_pushH (h : Sep w W (hP v H :: l)) (hn : H.length ≤ 10000000) (x : Bool) (ty : TypeId) : ∃ v' W', (Builtin.append_ #[50, 50] ty #[v, .slice (some ⟨W.heap.size, 0, none⟩) 1 1]).run Try.prog (W.alloc (.cells #[.bool x] 4)) = .ok v' W' ∧ Sep w W' (hP v' (H ++ [x]) :: l) := by
  obtain ⟨i0, hi0, hz0, hz1, hz2⟩ := info_parts infbe
  obtain ⟨v', W', h1, h2, h3, h4⟩ := own_pushG lenbe onebe Try.underlying50 hi0 hz0 hz1 hz2 rfl (by omega) (by omega) h.head (Nat.zero_le _) hn x ty
  exact ⟨v', W', h1, sep_own h h3 h2 h4⟩
theorem sep_pushV (h : Sep w W (vP v V :: l)) (hn : V.length ≤ 10000000) (x : Ac) (ty : TypeId) : ∃ v' W', (Builtin.append_ #[22, 22] ty #[v, .slice (some ⟨W.heap.size, 0, none⟩) 1 1]).run Try.prog (W.alloc (.cells (acE x).toArray 38)) = .ok v' W' ∧ Sep w W' (vP v' (V ++ [x]) :: l) := by
  obtain ⟨i0, hi0, hz0, hz1, hz2⟩ := info_parts infac
  obtain ⟨v', W', h1, h2, h3, h4⟩ := own_pushG lenac oneac Try.underlying22 hi0 hz0 hz1 hz2 rfl (by omega) (by omega) h.head (Nat.zero_le _) hn x ty
  exact ⟨v', W', h1, sep_own h h3 h2 h4⟩
theorem bools_set (H : List Bool) (k : Nat) (x : Bool) : (H.flatMap beE).set k (.bool x) = (H.set k x).flatMap beE := by
  have e : ∀ L : List Bool, L.flatMap beE = L.map Value.bool := fun L => by
    induction L with
    | nil => rfl
    | cons a t ih => rw [List.flatMap_cons, ih]; rfl
  rw [e, e, List.map_set]
theorem sep_setH {b n c k : Nat} (h : Sep w W (hP (.slice (some ⟨b, 0, none⟩) n c) H :: l)) (hn : H.length = n) (x : Bool) : Sep w (W.setCell ⟨b, k, none⟩ (.bool x)) (hP (.slice (some ⟨b, 0, none⟩) n c) (H.set k x) :: l) := by
  have h0 := h.head
  have h1 : W.ownsRow 0 4 1 (.slice (some ⟨b, 0, none⟩) n c) n (H.flatMap beE) := by rw [← hn]; rw [hn]; exact hn ▸ h0
  have h2 := (World.ownsRow.stored h1 k (.bool x)).1
  rw [bools_set] at h2
  refine sep_own h ((Fr.setCell W b k _).mono fun i _ q => by rw [q]; rfl) ?_ fun k hk => .inl hk
  rw [List.length_set, hn]
  exact h2
theorem sep_setV {b n c k : Nat} (h : Sep w W (vP (.slice (some ⟨b, 0, none⟩) n c) V :: l)) (hn : V.length = n) (hk : k < n) (x : Ac) : ∃ cur, W.heap[b]? = some (.cells cur 38) ∧ k * 4 + (acE x).length ≤ cur.size ∧ Sep w (W.setRow b (putE cur (k * 4) (acE x))) (vP (.slice (some ⟨b, 0, none⟩) n c) (V.set k x) :: l) := by
  have h0 := h.head
  have h1 : W.ownsRow 0 38 4 (.slice (some ⟨b, 0, none⟩) n c) n (V.flatMap acE) := hn ▸ h0
  obtain ⟨cur, q1, q2, q3⟩ := own_set lenac (x := x) h1 hn hk
  refine ⟨cur, q1, by rw [lenac]; exact q2, sep_own h ((Fr.setRow W b _).mono fun i _ q => by rw [q]; rfl) ?_ fun k hk => .inl hk⟩
  rw [List.length_set, hn]
  exact q3
theorem hP_form (h : Sep w W (hP v H :: l)) (h0 : 0 < H.length) : ∃ b c, v = .slice (some ⟨b, 0, none⟩) H.length c := by
  rcases own_form h.head with ⟨rfl, q⟩ | ⟨b, c, rfl, _⟩
  · omega
  · exact ⟨b, c, rfl⟩
theorem vP_form (h : Sep w W (vP v V :: l)) (h0 : 0 < V.length) : ∃ b c, v = .slice (some ⟨b, 0, none⟩) V.length c := by
  rcases own_form h.head with ⟨rfl, q⟩ | ⟨b, c, rfl, _⟩
  · omega
  · exact ⟨b, c, rfl⟩
theorem hP_at {b n c k : Nat} {x : Bool} (h : Sep w W (hP (.slice (some ⟨b, 0, none⟩) n c) H :: l)) (hn : H.length = n) (hk : H[k]? = some x) : b < W.heap.size ∧ W.cell? ⟨b, k, none⟩ = some (.bool x) ∧ ∀ j, W.frozen? ⟨b, j, none⟩ = false := by
  have h1 : W.ownsRow 0 4 1 (.slice (some ⟨b, 0, none⟩) n c) n (H.flatMap beE) := hn ▸ h.head
  refine ⟨own_lt h1 rfl, ?_, World.ownsRow.frozenAt h1⟩
  have := own_get lenbe h1 hk 0 _ rfl
  rwa [Nat.mul_one, Nat.add_zero] at this
theorem vP_at {b n c k : Nat} {x : Ac} (h : Sep w W (vP (.slice (some ⟨b, 0, none⟩) n c) V :: l)) (hn : V.length = n) (hk : V[k]? = some x) : b < W.heap.size ∧ W.cell? ⟨b, k * 4, none⟩ = some (.int .i64 x.1) ∧ W.cell? ⟨b, k * 4 + 1, none⟩ = some (.int .i64 x.2.1) ∧ W.cell? ⟨b, k * 4 + 2, none⟩ = some (.int .i64 x.2.2.1) ∧ W.cell? ⟨b, k * 4 + 3, none⟩ = some (.int .i64 x.2.2.2) := by
  have h1 : W.ownsRow 0 38 4 (.slice (some ⟨b, 0, none⟩) n c) n (V.flatMap acE) := hn ▸ h.head
  have := own_get lenac h1 hk
  exact ⟨own_lt h1 rfl, this 0 _ rfl, this 1 _ rfl, this 2 _ rfl, this 3 _ rfl⟩
end
theorem Sep.front4 {w W : World} {a b c d : Part} {l : List Part} (h : Sep w W (a :: b :: c :: d :: l)) : Sep w W (d :: a :: b :: c :: l) := h.perm (List.perm_middle (l₁ := [a, b, c]))
theorem Sep.back4 {w W : World} {a b c d : Part} {l : List Part} (h : Sep w W (d :: a :: b :: c :: l)) : Sep w W (a :: b :: c :: d :: l) := h.perm (List.perm_middle (l₁ := [a, b, c])).symm
/-- How the law's lists stand to a table. -/
structure Lk (N i : Nat) (R : List (Option Ac)) (H : List Bool) (V : List Ac) : Prop where
  hl : H.length = N + 1
  vl : V.length = N + 1
  rl : R.length ≤ i
  hh : ∀ k, k ≤ N → H[k]? = some (atR R k).isSome
  vv : ∀ k x, atR R k = some x → V[k]? = some x
theorem atR_nil (k : Nat) : atR ([] : List (Option Ac)) k = none := by unfold atR; simp
theorem Lk.start (N : Nat) : Lk N 0 [] (List.replicate (N + 1) false) (List.replicate (N + 1) (0, 0, 0, 0)) :=
  ⟨by simp, by simp, by simp, fun k hk => by rw [List.getElem?_replicate, if_pos (by omega), atR_nil]; rfl, fun k x h => by rw [atR_nil] at h; cases h⟩
theorem Lk.later {N i j : Nat} {R : List (Option Ac)} {H : List Bool} {V : List Ac} (h : Lk N i R H V) (hij : i ≤ j) : Lk N j R H V := ⟨h.hl, h.vl, Nat.le_trans h.rl hij, h.hh, h.vv⟩
theorem Lk.opened {N i : Nat} {R : List (Option Ac)} {H : List Bool} {V : List Ac} (h : Lk N i R H V) (hi : i < N) (x : Ac) : Lk N (i + 1) (openR R x) (H.set (lf R) true) (V.set (lf R) x) := by
  have hlf := lf_le R
  have hrl := h.rl
  have hlo := len_open R x
  refine ⟨by rw [List.length_set, h.hl], by rw [List.length_set, h.vl], by omega, fun k hk => ?_, fun k y hy => ?_⟩
  · rw [atR_open]
    by_cases e : k = lf R
    · subst e
      rw [if_pos rfl, List.getElem?_set_self (by rw [h.hl]; omega)]
      rfl
    · rw [if_neg e, List.getElem?_set_ne (Ne.symm e)]
      exact h.hh k hk
  · rw [atR_open] at hy
    by_cases e : k = lf R
    · subst e
      rw [if_pos rfl] at hy
      injection hy with hy
      rw [List.getElem?_set_self (by rw [h.vl]; omega), hy]
    · rw [if_neg e] at hy
      rw [List.getElem?_set_ne (Ne.symm e)]
      exact h.vv k y hy
theorem Lk.closed {N i k : Nat} {R : List (Option Ac)} {H : List Bool} {V : List Ac} {x : Ac} (h : Lk N i R H V) (hk : R[k]? = some (some x)) : Lk N i (R.set k none) (H.set k false) V := by
  have hkl := (List.getElem?_eq_some_iff.1 hk).1
  have hrl := h.rl
  refine ⟨by rw [List.length_set, h.hl], h.vl, by rw [List.length_set]; exact hrl, fun j hj => ?_, fun j y hy => ?_⟩
  · rw [atR_set _ _ _ _ hkl]
    by_cases e : j = k
    · subst e
      rw [if_pos rfl, List.getElem?_set_self (by rw [h.hl]; omega)]
      rfl
    · rw [if_neg e, List.getElem?_set_ne (Ne.symm e)]
      exact h.hh j hj
  · rw [atR_set _ _ _ _ hkl] at hy
    by_cases e : j = k
    · rw [if_pos e] at hy; cases hy
    · rw [if_neg e] at hy
      exact h.vv j y hy
theorem Lk.sets {N i k : Nat} {R : List (Option Ac)} {H : List Bool} {V : List Ac} {x : Ac} (h : Lk N i R H V) (hk : R[k]? = some (some x)) (hi : i ≤ N) (z : Ac) : Lk N i (R.set k (some z)) H (V.set k z) := by
  have hkl := (List.getElem?_eq_some_iff.1 hk).1
  have hrl := h.rl
  refine ⟨h.hl, by rw [List.length_set, h.vl], by rw [List.length_set]; exact hrl, fun j hj => ?_, fun j y hy => ?_⟩
  · rw [atR_set _ _ _ _ hkl]
    by_cases e : j = k
    · subst e
      rw [if_pos rfl, h.hh j hj, atR_some.2 hk]
      rfl
    · rw [if_neg e]
      exact h.hh j hj
  · rw [atR_set _ _ _ _ hkl] at hy
    by_cases e : j = k
    · subst e
      rw [if_pos rfl] at hy
      injection hy with hy
      rw [List.getElem?_set_self (by rw [h.vl]; omega), hy]
    · rw [if_neg e] at hy
      rw [List.getElem?_set_ne (Ne.symm e)]
      exact h.vv j y hy
/-- What a number is: held, and both lists say so; or not, and the list of bools says so. -/
theorem Lk.cases {N i k : Nat} {R : List (Option Ac)} {H : List Bool} {V : List Ac} (h : Lk N i R H V) (hk : k ≤ N) :
    (∃ x, R[k]? = some (some x) ∧ refV R (k : Int) = 0 ∧ getO R (k : Int) = some x ∧ closeR R (k : Int) = R.set k none ∧ (∀ y, setR R (k : Int) y = R.set k (some y)) ∧ H[k]? = some true ∧ V[k]? = some x) ∨
    (refV R (k : Int) = 13 ∧ getO R (k : Int) = none ∧ closeR R (k : Int) = R ∧ (∀ y, setR R (k : Int) y = R) ∧ H[k]? = some false) := by
  rcases fd_cases R (k : Int) with ⟨j, x, e, hj, h1, h2, h3, h4⟩ | ⟨h1, h2, h3, h4⟩
  · obtain rfl : j = k := by omega
    refine .inl ⟨x, hj, h1, h2, h3, h4, ?_, h.vv j x (atR_some.2 hj)⟩
    rw [h.hh j hk, atR_some.2 hj]
    rfl
  · refine .inr ⟨h1, h2, h3, h4, ?_⟩
    rw [h.hh k hk]
    have : getO R (k : Int) = atR R k := by unfold getO; rw [if_pos (by omega), show ((k : Int)).toNat = k by omega]
    rw [← this, h2]
    rfl
end Go.Proofs.Ytbchbappdpbkiaa
