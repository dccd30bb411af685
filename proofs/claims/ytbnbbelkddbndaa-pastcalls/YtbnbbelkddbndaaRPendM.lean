/- What is pending, told step by step as the document tells it, is what it is told at once; no condition. -/
import Derived.Test.YtbnbbelkddbndaaKeys
namespace Go.Proofs.Ytbnbbelkddbndaa
open Go.RowKit
theorem sureN_snoc (l : List Rec) (r : Rec) : sureN (l ++ [r]) = if r.kind = 2 then l.length + 1 else sureN l := by
  induction l with
  | nil => simp [sureN]
  | cons x t ih =>
    simp only [List.cons_append, sureN, ih, List.length_cons]
    by_cases h : r.kind = 2
    · simp [h]
    · simp [h]
/-- The document's list of what is pending, behind i ops. -/
def rpUpto (l : List Rec) : Nat → List Int
  | 0 => []
  | i + 1 => match l[i]? with
    | some r => if r.kind = 1 then rpUpto l i ++ [(i : Int)] else if r.kind = 2 then [] else rpUpto l i
    | none => rpUpto l i
theorem rpUpto_at {l : List Rec} {i : Nat} {r : Rec} (h : l[i]? = some r) : rpUpto l (i + 1) = if r.kind = 1 then rpUpto l i ++ [(i : Int)] else if r.kind = 2 then [] else rpUpto l i := by
  show (match l[i]? with
    | some r => if r.kind = 1 then rpUpto l i ++ [(i : Int)] else if r.kind = 2 then [] else rpUpto l i
    | none => rpUpto l i) = _
  rw [h]
theorem pendUpto_low (m : List Rec) (r : Rec) (hs : sureN (m ++ [r]) = sureN m) : pendUpto (m ++ [r]) m.length = pendUpto m m.length := by
  unfold pendUpto
  congr 1
  apply List.filter_congr
  intro j hj
  have hj' := List.mem_range.1 hj
  rw [hs]
  unfold isWrite
  rw [List.getElem?_append_left hj']
theorem rp_eq (l : List Rec) : ∀ i, i ≤ l.length → rpUpto l i = pendL (l.take i)
  | 0, _ => by simp [rpUpto, pendL, pendUpto]
  | i + 1, h => by
    have ih := rp_eq l i (by omega)
    have hr : l[i]? = some l[i] := List.getElem?_eq_getElem (by omega)
    rw [rpUpto_at hr, ih]
    have ht : l.take (i + 1) = l.take i ++ [l[i]] := takeR_snoc hr
    have hlen : (l.take i).length = i := by rw [List.length_take]; omega
    rw [ht]
    generalize l[i] = r at *
    generalize l.take i = m at *
    unfold pendL
    rw [List.length_append, hlen]
    have hsn := sureN_snoc m r
    rw [hlen] at hsn
    show _ = pendUpto (m ++ [r]) (i + 1)
    by_cases h2 : r.kind = 2
    · rw [if_pos h2] at hsn
      have := pendUpto_sure (m ++ [r])
      rw [hsn] at this
      rw [this, if_neg (by omega), if_pos h2]
    · rw [if_neg h2] at hsn
      have hle := sureN_le m
      rw [pendUpto_next (l := m ++ [r]) (i := i) (by rw [hsn]; omega)]
      have hlow := pendUpto_low m r hsn
      rw [hlen] at hlow
      rw [hlow]
      have hw : isWrite (m ++ [r]) i = decide (r.kind = 1) := by
        unfold isWrite
        rw [List.getElem?_append_right (by omega), hlen]
        simp
      rw [hw, if_neg h2]
      by_cases h1 : r.kind = 1 <;> simp [h1]
end Go.Proofs.Ytbnbbelkddbndaa
