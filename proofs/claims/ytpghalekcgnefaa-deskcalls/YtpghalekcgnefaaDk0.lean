/- Numbers with their holds, rising, and what a map with these entries reads as; no condition. -/
import Derived.Test.YtpghalekcgnefaaBase
import Derived.Maps.Ext
namespace Go.Proofs.Ytpghalekcgnefaa
open Go.RowKit Go.Maps
/-- An entry as it is read. -/
def enH (p : Int × Int) : Lit × DataW Unit := (.int .i64 p.1, .lit (.int .i64 p.2))
def dM (L : List (Int × Int)) : DataW Unit := .map (L.map enH)
def insH (x : Int × Int) : List (Int × Int) → List (Int × Int)
  | [] => [x]
  | y :: r => if x.1 < y.1 then x :: y :: r else y :: insH x r
def delH (L : List (Int × Int)) (k : Int) : List (Int × Int) := L.filter fun p => !decide (p.1 = k)
def putH (L : List (Int × Int)) (k v : Int) : List (Int × Int) := insH (k, v) (delH L k)
def getH (L : List (Int × Int)) (k : Int) : Option Int := (L.find? fun p => decide (p.1 = k)).map (·.2)
theorem sameKey_enH (p : Int × Int) (k : Int) : (enH p).1.sameKey (.int .i64 k) = decide (p.1 = k) := by simp [enH, Lit.sameKey]
theorem ins_map (x : Int × Int) : ∀ L : List (Int × Int), DataW.insert (enH x) (L.map enH) = (insH x L).map enH
  | [] => rfl
  | y :: r => by
    simp only [List.map_cons, DataW.insert, insH, enH, Lit.before, decide_eq_true_eq]
    split
    · rfl
    · rw [List.map_cons, ← ins_map x r]; rfl
theorem del_map (L : List (Int × Int)) (k : Int) : ((L.map enH).filter fun p => !p.1.sameKey (.int .i64 k)) = (delH L k).map enH := by
  unfold delH
  rw [List.filter_map]
  congr 1
  refine List.filter_congr fun p _ => ?_
  simp only [Function.comp, sameKey_enH]
theorem dM_put (L : List (Int × Int)) (k v : Int) : (dM L).put (.int .i64 k) (.lit (.int .i64 v)) = dM (putH L k v) := by
  simp only [dM, DataW.put, del_map]
  rw [show ((Lit.int .i64 k, DataW.lit (.int .i64 v)) : Lit × DataW Unit) = enH (k, v) from rfl, ins_map]
  rfl
theorem dM_del (L : List (Int × Int)) (k : Int) : (dM L).del (.int .i64 k) = dM (delH L k) := by simp only [dM, DataW.del, del_map]
theorem find_map (L : List (Int × Int)) (k : Int) : (L.map enH).find? (fun p => p.1.sameKey (.int .i64 k)) = (L.find? fun p => decide (p.1 = k)).map enH := by
  rw [List.find?_map]
  congr 2
  funext p
  simp only [Function.comp, sameKey_enH]
theorem dM_at (L : List (Int × Int)) (k : Int) : (dM L).atKey (.int .i64 k) (.lit (.int .i64 0)) = .lit (.int .i64 ((getH L k).getD 0)) := by
  simp only [dM, DataW.atKey, find_map, getH]
  cases L.find? fun p => decide (p.1 = k) <;> rfl
theorem dM_has (L : List (Int × Int)) (k : Int) : Maps.has (dM L) (.int .i64 k) = (getH L k).isSome := by
  simp only [dM, Maps.has_eq, getH, Option.isSome_map]
  rw [List.any_map]
  induction L with
  | nil => rfl
  | cons p r ih =>
    simp only [List.any_cons, List.find?_cons, Function.comp, sameKey_enH]
    by_cases h : p.1 = k
    · simp [h]
    · simp only [h, decide_false, Bool.false_or]
      simpa using ih
theorem dM_size (L : List (Int × Int)) : Maps.size (dM L) = L.length := by simp [dM, Maps.size_eq]
/-- Rising by their numbers. -/
def Ris (L : List (Int × Int)) : Prop := L.Pairwise fun p q => p.1 < q.1
theorem ins_mem (x : Int × Int) : ∀ (L : List (Int × Int)) (p : Int × Int), p ∈ insH x L ↔ p = x ∨ p ∈ L
  | [], p => by simp [insH]
  | y :: r, p => by
    unfold insH
    split
    · simp
    · simp only [List.mem_cons, ins_mem x r p]
      constructor
      · rintro (h | h | h) <;> simp [h]
      · rintro (h | h | h) <;> simp [h]
theorem ins_len (x : Int × Int) : ∀ L : List (Int × Int), (insH x L).length = L.length + 1
  | [] => rfl
  | y :: r => by
    unfold insH
    split
    · rfl
    · rw [List.length_cons, ins_len x r, List.length_cons]
theorem ins_ris (x : Int × Int) : ∀ L : List (Int × Int), Ris L → (∀ p ∈ L, p.1 ≠ x.1) → Ris (insH x L)
  | [], _, _ => List.pairwise_singleton _ _
  | y :: r, h, hn => by
    obtain ⟨h1, h2⟩ := List.pairwise_cons.1 h
    have hy := hn y (by simp)
    unfold insH
    split
    · rename_i hlt
      refine List.pairwise_cons.2 ⟨fun p hp => ?_, h⟩
      rcases List.mem_cons.1 hp with rfl | hp
      · exact hlt
      · have := h1 p hp
        omega
    · rename_i hlt
      refine List.pairwise_cons.2 ⟨fun p hp => ?_, ins_ris x r h2 fun p hp => hn p (List.mem_cons_of_mem _ hp)⟩
      rcases (ins_mem x r p).1 hp with rfl | hp
      · omega
      · exact h1 p hp
theorem del_mem (L : List (Int × Int)) (k : Int) (p : Int × Int) : p ∈ delH L k ↔ p ∈ L ∧ p.1 ≠ k := by simp [delH]
theorem del_ris {L : List (Int × Int)} (h : Ris L) (k : Int) : Ris (delH L k) := h.filter _
theorem put_ris {L : List (Int × Int)} (h : Ris L) (k v : Int) : Ris (putH L k v) := ins_ris _ _ (del_ris h k) fun p hp => ((del_mem L k p).1 hp).2
theorem put_mem (L : List (Int × Int)) (k v : Int) (p : Int × Int) : p ∈ putH L k v ↔ p = (k, v) ∨ (p ∈ L ∧ p.1 ≠ k) := by rw [putH, ins_mem, del_mem]
theorem get_none {L : List (Int × Int)} {k : Int} (h : getH L k = none) : ∀ p ∈ L, p.1 ≠ k := fun p hp => by
  simp only [getH, Option.map_eq_none_iff, List.find?_eq_none] at h
  simpa using h p hp
theorem get_some {L : List (Int × Int)} {k v : Int} (h : getH L k = some v) : (k, v) ∈ L := by
  simp only [getH, Option.map_eq_some_iff] at h
  obtain ⟨p, hp, rfl⟩ := h
  have h1 := List.find?_some hp
  simp only [decide_eq_true_eq] at h1
  rw [← h1]
  exact List.mem_of_find?_eq_some hp
theorem ris_inj {L : List (Int × Int)} (h : Ris L) {p q : Int × Int} (hp : p ∈ L) (hq : q ∈ L) (e : p.1 = q.1) : p = q := by
  induction L with
  | nil => cases hp
  | cons a r ih =>
    obtain ⟨h1, h2⟩ := List.pairwise_cons.1 h
    rcases List.mem_cons.1 hp with rfl | hp' <;> rcases List.mem_cons.1 hq with rfl | hq'
    · rfl
    · have := h1 q hq'; omega
    · have := h1 p hp'; omega
    · exact ih h2 hp' hq'
theorem get_of {L : List (Int × Int)} (h : Ris L) {k v : Int} (hm : (k, v) ∈ L) : getH L k = some v := by
  cases e : getH L k with
  | none => exact absurd rfl (get_none e _ hm)
  | some u =>
    have := ris_inj h (get_some e) hm rfl
    simp only [Prod.mk.injEq, true_and] at this
    rw [this]
theorem del_none {L : List (Int × Int)} {k : Int} (h : getH L k = none) : delH L k = L := by
  unfold delH
  rw [List.filter_eq_self]
  intro p hp
  simpa using get_none h p hp
theorem del_len {L : List (Int × Int)} (hr : Ris L) {k v : Int} (h : getH L k = some v) : (delH L k).length + 1 = L.length := by
  have hm := get_some h
  clear h
  induction L with
  | nil => cases hm
  | cons a r ih =>
    obtain ⟨h1, h2⟩ := List.pairwise_cons.1 hr
    unfold delH
    rcases List.mem_cons.1 hm with e | hm'
    · have ek : a.1 = k := by rw [← e]
      have er : (r.filter fun p => !decide (p.1 = k)) = r := List.filter_eq_self.2 fun p hp => by
        have := h1 p hp
        simp; omega
      simp [ek, er]
    · have hk := h1 _ hm'
      have : ¬ a.1 = k := by simp only at hk; omega
      rw [List.filter_cons]
      simp only [this, decide_false, Bool.not_false, if_true, List.length_cons]
      rw [← ih h2 hm']
      rfl
theorem put_len_new {L : List (Int × Int)} {k : Int} (h : getH L k = none) (v : Int) : (putH L k v).length = L.length + 1 := by rw [putH, ins_len, del_none h]
theorem put_len_old {L : List (Int × Int)} (hr : Ris L) {k u : Int} (h : getH L k = some u) (v : Int) : (putH L k v).length = L.length := by rw [putH, ins_len, del_len hr h]
theorem get_put_same {L : List (Int × Int)} (hr : Ris L) (k v : Int) : getH (putH L k v) k = some v := get_of (put_ris hr k v) ((put_mem L k v _).2 (.inl rfl))
theorem get_put_other {L : List (Int × Int)} (hr : Ris L) {k j : Int} (v : Int) (hj : j ≠ k) : getH (putH L k v) j = getH L j := by
  cases e : getH L j with
  | some u => exact get_of (put_ris hr k v) ((put_mem L k v _).2 (.inr ⟨get_some e, hj⟩))
  | none =>
    cases e2 : getH (putH L k v) j with
    | none => rfl
    | some u =>
      rcases (put_mem L k v _).1 (get_some e2) with q | q
      · simp only [Prod.mk.injEq] at q; exact absurd q.1 hj
      · exact absurd rfl (get_none e _ q.1)
theorem get_del_same (L : List (Int × Int)) (k : Int) : getH (delH L k) k = none := by
  cases e : getH (delH L k) k with
  | none => rfl
  | some u => exact absurd rfl ((del_mem L k _).1 (get_some e)).2
theorem get_del_other {L : List (Int × Int)} (hr : Ris L) {k j : Int} (hj : j ≠ k) : getH (delH L k) j = getH L j := by
  cases e : getH L j with
  | some u => exact get_of (del_ris hr k) ((del_mem L k _).2 ⟨get_some e, hj⟩)
  | none =>
    cases e2 : getH (delH L k) j with
    | none => rfl
    | some u => exact absurd rfl (get_none e _ ((del_mem L k _).1 (get_some e2)).1)
/-- What a desk holds: for so many at most; at most c of each. -/
structure Dok (m : Int) (L : List (Int × Int)) (c : Nat) : Prop where
  ris : Ris L
  key : ∀ p ∈ L, 1 ≤ p.1 ∧ p.1 ≤ 9223372036854775807
  val : ∀ p ∈ L, 1 ≤ p.2 ∧ p.2 ≤ c
  len : (L.length : Int) ≤ m
  lec : L.length ≤ c
  top : m ≤ 9223372036854775807
def holdE (m : Int) (L : List (Int × Int)) (k : Int) : Int := if k < 1 then 2 else match getH L k with | some _ => 0 | none => if (L.length : Int) = m then 15 else 0
def holdL (m : Int) (L : List (Int × Int)) (k : Int) : List (Int × Int) := if k < 1 then L else match getH L k with | some h => putH L k (h + 1) | none => if (L.length : Int) = m then L else putH L k 1
def dropB (L : List (Int × Int)) (k : Int) : Bool := match getH L k with | some h => decide (¬ 1 < h) | none => false
def dropE (L : List (Int × Int)) (k : Int) : Int := match getH L k with | some _ => 0 | none => 2
def dropL (L : List (Int × Int)) (k : Int) : List (Int × Int) := match getH L k with | some h => if 1 < h then putH L k (h - 1) else delH L k | none => L
def fullB (m : Int) (L : List (Int × Int)) : Bool := decide ((L.length : Int) = m)
theorem Dok.start {m : Int} (h0 : 0 ≤ m) (h : m ≤ 9223372036854775807) (c : Nat) : Dok m [] c := ⟨List.Pairwise.nil, by simp, by simp, by simpa using h0, by simp, h⟩
theorem Dok.mono {m : Int} {L : List (Int × Int)} {c d : Nat} (h : Dok m L c) (hc : c ≤ d) : Dok m L d := ⟨h.ris, h.key, fun p hp => ⟨(h.val p hp).1, by have := (h.val p hp).2; omega⟩, h.len, by have := h.lec; omega, h.top⟩
theorem Dok.hold {m : Int} {L : List (Int × Int)} {c : Nat} (h : Dok m L c) {k : Int} (hk : k ≤ 9223372036854775807) : Dok m (holdL m L k) (c + 1) := by
  unfold holdL
  split
  · exact h.mono (by omega)
  · rename_i hk1
    split
    · rename_i u e
      have hu := h.val _ (get_some e)
      simp only at hu
      refine ⟨put_ris h.ris _ _, fun p hp => ?_, fun p hp => ?_, by rw [put_len_old h.ris e]; exact h.len, by rw [put_len_old h.ris e]; have := h.lec; omega, h.top⟩
      · rcases (put_mem _ _ _ _).1 hp with rfl | q
        · exact ⟨by simp only; omega, hk⟩
        · exact h.key p q.1
      · rcases (put_mem _ _ _ _).1 hp with rfl | q
        · simp only; omega
        · have := h.val p q.1; omega
    · rename_i e
      split
      · exact h.mono (by omega)
      · rename_i hne
        refine ⟨put_ris h.ris _ _, fun p hp => ?_, fun p hp => ?_, by rw [put_len_new e]; have := h.len; omega, by rw [put_len_new e]; have := h.lec; omega, h.top⟩
        · rcases (put_mem _ _ _ _).1 hp with rfl | q
          · exact ⟨by simp only; omega, hk⟩
          · exact h.key p q.1
        · rcases (put_mem _ _ _ _).1 hp with rfl | q
          · simp only; omega
          · have := h.val p q.1; omega
theorem Dok.drop {m : Int} {L : List (Int × Int)} {c : Nat} (h : Dok m L c) (k : Int) : Dok m (dropL L k) c := by
  unfold dropL
  split
  · rename_i u e
    have hu := h.val _ (get_some e)
    have hk := h.key _ (get_some e)
    simp only at hu hk
    split
    · refine ⟨put_ris h.ris _ _, fun p hp => ?_, fun p hp => ?_, by rw [put_len_old h.ris e]; exact h.len, by rw [put_len_old h.ris e]; exact h.lec, h.top⟩
      · rcases (put_mem _ _ _ _).1 hp with rfl | q
        · exact hk
        · exact h.key p q.1
      · rcases (put_mem _ _ _ _).1 hp with rfl | q
        · simp only; omega
        · exact h.val p q.1
    · have hl := del_len h.ris e
      exact ⟨del_ris h.ris _, fun p hp => h.key p ((del_mem _ _ _).1 hp).1, fun p hp => h.val p ((del_mem _ _ _).1 hp).1, by have := h.len; omega, by have := h.lec; omega, h.top⟩
  · exact h
end Go.Proofs.Ytpghalekcgnefaa
