/- A block as numbers of four bytes, one behind the other; plain. -/
import Derived.Test.YtgkhheblmknedaaMay
import Derived.Test.YtgkhheblmknedaaRefSet
namespace Go.Proofs.Ytgkhheblmknedaa
open Go.RowKit
/-- The block that begins with these numbers, noughts behind them. -/
def wordF (xs : List Int) : Nat → Int := fun j => xs.getD (j / 4) 0 / 256 ^ (j % 4) % 256
abbrev U32 (x : Int) : Prop := 0 ≤ x ∧ x < 4294967296
abbrev AllU (xs : List Int) : Prop := ∀ x ∈ xs, U32 x
theorem getD_u {xs : List Int} (h : AllU xs) (i : Nat) : U32 (xs.getD i 0) := by
  rw [List.getD_eq_getElem?_getD]
  by_cases hi : i < xs.length
  · rw [List.getElem?_eq_getElem hi]; exact h _ (List.getElem_mem _)
  · rw [List.getElem?_eq_none (by omega)]; exact ⟨by decide, by decide⟩
theorem wordF_byte (xs : List Int) (j : Nat) : 0 ≤ wordF xs j ∧ wordF xs j ≤ 255 := by
  unfold wordF; omega
theorem wordF_nil : wordF [] = nought := by
  funext j; unfold wordF nought; simp
theorem wordF_at (xs : List Int) (i r : Nat) (hr : r < 4) : wordF xs (4 * i + r) = xs.getD i 0 / 256 ^ r % 256 := by
  unfold wordF
  rw [show (4 * i + r) / 4 = i by omega, show (4 * i + r) % 4 = r by omega]
theorem wordF_snoc (xs : List Int) (x : Int) (hx : U32 x) (hl : xs.length < 256) : put (wordF xs) ((4 * xs.length : Nat) : Int) 4 x = wordF (xs ++ [x]) := by
  rw [put_in _ _ _ _ (by omega), put4 _ _ _ hx]
  funext j
  obtain ⟨i, r, hr, rfl⟩ : ∃ i r, r < 4 ∧ j = 4 * i + r := ⟨j / 4, j % 4, by omega, by omega⟩
  rw [wordF_at _ _ _ hr]
  have hx0 := hx.1
  have hx1 := hx.2
  by_cases hi : i = xs.length
  · subst hi
    have e : (xs ++ [x]).getD xs.length 0 = x := by simp
    rw [e]
    unfold upd
    have : r = 0 ∨ r = 1 ∨ r = 2 ∨ r = 3 := by omega
    rcases this with rfl | rfl | rfl | rfl
    · rw [if_neg (by omega), if_neg (by omega), if_neg (by omega), if_pos (by omega)]; simp
    · rw [if_neg (by omega), if_neg (by omega), if_pos (by omega)]; simp
    · rw [if_neg (by omega), if_pos (by omega)]; simp
    · rw [if_pos (by omega)]
      show x / 16777216 = x / 16777216 % 256
      omega
  · have e : (xs ++ [x]).getD i 0 = xs.getD i 0 := by
      rw [List.getD_eq_getElem?_getD, List.getD_eq_getElem?_getD]
      by_cases h : i < xs.length
      · rw [List.getElem?_append_left h]
      · rw [List.getElem?_eq_none (by simp; omega), List.getElem?_eq_none (by omega)]
    rw [e]
    unfold upd
    rw [if_neg (by omega), if_neg (by omega), if_neg (by omega), if_neg (by omega)]
    exact wordF_at _ _ _ hr
theorem wordF_read (xs : List Int) (h : AllU xs) (i : Nat) : numN (wordF xs) (4 * i) 4 = xs.getD i 0 := by
  rw [num4, show 4 * i = 4 * i + 0 by omega, wordF_at _ _ 0 (by omega), show 4 * i + 0 + 1 = 4 * i + 1 by omega, show 4 * i + 0 + 2 = 4 * i + 2 by omega, show 4 * i + 0 + 3 = 4 * i + 3 by omega, wordF_at _ _ 1 (by omega), wordF_at _ _ 2 (by omega), wordF_at _ _ 3 (by omega)]
  have := getD_u h i
  generalize xs.getD i 0 = x at *
  obtain ⟨h0, h1⟩ := this
  show x / 1 % 256 + 256 * (x / 256 % 256) + 65536 * (x / 65536 % 256) + 16777216 * (x / 16777216 % 256) = x
  omega
/-- The targets that a block says. -/
def tgts (f : Nat → Int) (n : Nat) : List Int := (List.range n).map fun i => numN f (4 * (i + 1)) 4
theorem tgts_len (f : Nat → Int) (n : Nat) : (tgts f n).length = n := by simp [tgts]
theorem tgts_u (f : Nat → Int) (hf : ∀ i, 0 ≤ f i ∧ f i ≤ 255) (n : Nat) : AllU (tgts f n) := fun x hx => by
  obtain ⟨i, _, rfl⟩ := List.mem_map.1 hx
  exact numN_bd f hf 4 _
theorem tgts_get (f : Nat → Int) (n i : Nat) (h : i < n) : (tgts f n)[i]? = some (numN f (4 * (i + 1)) 4) := by simp [tgts, h]
theorem u_wf {x : Int} (h : U32 x) : (Lit.int .i64 x).wf = true := WalkArith.wf_i64 (by omega)
theorem allU_wf {xs : List Int} (h : AllU xs) : WfI xs := fun t ht => u_wf (h t ht)
/-- The header's block. -/
def headF (ts : List Int) : Nat → Int := wordF ((ts.length : Int) :: ts)
theorem head_tgts (ts zs : List Int) (h : AllU ts) (hz : AllU zs) (hl : (ts.length : Int) < 4294967296) : tgts (wordF ((ts.length : Int) :: (ts ++ zs))) ts.length = ts := by
  refine List.ext_getElem? fun i => ?_
  by_cases hi : i < ts.length
  · rw [tgts_get _ _ _ hi, wordF_read _ (fun x hx => by
      rcases List.mem_cons.1 hx with rfl | hx
      · exact ⟨by omega, hl⟩
      · rcases List.mem_append.1 hx with hx | hx
        · exact h x hx
        · exact hz x hx)]
    rw [List.getD_eq_getElem?_getD, List.getElem?_cons_succ, List.getElem?_append_left hi, List.getElem?_eq_getElem hi]
    rfl
  · rw [List.getElem?_eq_none (by rw [tgts_len]; omega), List.getElem?_eq_none (by omega)]
end Go.Proofs.Ytgkhheblmknedaa
