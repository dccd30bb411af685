/- What the document's desk does to its rising list, step by step: put in, taken out, found; no condition. -/
import Derived.Test.YtpghalekcgnefaaDk2
namespace Go.Proofs.Ytpghalekcgnefaa
open Go.RowKit Go.Maps
theorem ris_at {L : List (Int × Int)} (h : Ris L) {i j : Nat} {p q : Int × Int} (hi : L[i]? = some p) (hj : L[j]? = some q) (e : p.1 = q.1) : i = j := by
  obtain ⟨h1, rfl⟩ := List.getElem?_eq_some_iff.1 hi
  obtain ⟨h2, rfl⟩ := List.getElem?_eq_some_iff.1 hj
  have hp := List.pairwise_iff_getElem.1 h
  rcases Nat.lt_trichotomy i j with q | q | q
  · have := hp i j h1 h2 q; omega
  · exact q
  · have := hp j i h2 h1 q; omega
theorem put_set : ∀ (L : List (Int × Int)) (i : Nat) (k h x : Int), Ris L → L[i]? = some (k, h) → putH L k x = L.set i (k, x)
  | [], i, k, h, x, _, hi => by simp at hi
  | a :: r, 0, k, h, x, hr, hi => by
    obtain ⟨h1, h2⟩ := List.pairwise_cons.1 hr
    have ea : a = (k, h) := by simpa using hi
    subst ea
    have ed : delH ((k, h) :: r) k = r := by
      unfold delH
      rw [List.filter_cons]
      simp only [decide_true, Bool.not_true, Bool.false_eq_true, if_false]
      refine List.filter_eq_self.2 fun p hp => ?_
      have := h1 p hp
      simp only at this
      simp
      omega
    unfold putH
    rw [ed, List.set_cons_zero]
    cases r with
    | nil => rfl
    | cons y t =>
      have := h1 y (by simp)
      simp only at this
      unfold insH
      rw [if_pos this]
  | a :: r, i + 1, k, h, x, hr, hi => by
    obtain ⟨h1, h2⟩ := List.pairwise_cons.1 hr
    have hi' : r[i]? = some (k, h) := by simpa using hi
    have hlt := h1 _ (List.mem_of_getElem? hi')
    simp only at hlt
    have ed : delH (a :: r) k = a :: delH r k := by
      unfold delH
      rw [List.filter_cons, if_pos (by simp; omega)]
    unfold putH
    rw [ed, List.set_cons_succ]
    unfold insH
    rw [if_neg (by simp only; omega)]
    have := put_set r i k h x h2 hi'
    unfold putH at this
    rw [this]
theorem get_at {L : List (Int × Int)} (hr : Ris L) {i : Nat} {k h : Int} (hi : L[i]? = some (k, h)) : getH L k = some h := get_of hr (List.mem_of_getElem? hi)
theorem get_not {L : List (Int × Int)} {k : Int} (h : ∀ (i : Nat) (p : Int × Int), L[i]? = some p → p.1 ≠ k) : getH L k = none := by
  cases e : getH L k with
  | none => rfl
  | some u =>
    obtain ⟨i, hi⟩ := List.getElem?_of_mem (get_some e)
    exact absurd rfl (h i _ hi)
theorem ins_behind (k v : Int) : ∀ (A B : List (Int × Int)), (∀ p ∈ A, p.1 ≤ k) → insH (k, v) (A ++ B) = A ++ insH (k, v) B
  | [], B, _ => rfl
  | a :: r, B, h => by
    have := h a (by simp)
    rw [List.cons_append]
    conv => lhs; unfold insH
    rw [if_neg (by simp only; omega), ins_behind k v r B fun p hp => h p (List.mem_cons_of_mem _ hp)]
    rfl
theorem ins_ahead (k v : Int) : ∀ (A B : List (Int × Int)), (∃ p ∈ A, k < p.1) → insH (k, v) (A ++ B) = insH (k, v) A ++ B
  | [], B, h => by obtain ⟨p, hp, _⟩ := h; cases hp
  | a :: r, B, h => by
    rw [List.cons_append]
    conv => lhs; unfold insH
    conv => rhs; unfold insH
    by_cases q : k < a.1
    · simp only [if_pos q]
      rfl
    · simp only [if_neg q]
      rw [ins_ahead k v r B ?_]
      · rfl
      · obtain ⟨p, hp, h2⟩ := h
        rcases List.mem_cons.1 hp with rfl | hp
        · exact absurd h2 q
        · exact ⟨p, hp, h2⟩
/-- The document's list with one put in, as far as it has gone. -/
def insU (k : Int) (L : List (Int × Int)) (i : Nat) (d : Bool) : List (Int × Int) := if d then insH (k, 1) (L.take i) else L.take i
structure InsOk (k : Int) (L : List (Int × Int)) (i : Nat) (d : Bool) : Prop where
  no : d = false → ∀ p ∈ L.take i, p.1 ≤ k
  yes : d = true → ∃ p ∈ L.take i, k < p.1
theorem InsOk.start (k : Int) (L : List (Int × Int)) : InsOk k L 0 false := ⟨fun _ p hp => by simp at hp, fun h => by cases h⟩
theorem take_next {α : Type} {L : List α} {i : Nat} {x : α} (h : L[i]? = some x) : L.take (i + 1) = L.take i ++ [x] := by
  obtain ⟨h1, rfl⟩ := List.getElem?_eq_some_iff.1 h
  exact List.take_succ_eq_append_getElem h1
theorem InsOk.go {k : Int} {L : List (Int × Int)} {i : Nat} (h : InsOk k L i false) {x : Int × Int} (hx : L[i]? = some x) (hg : ¬ k < x.1) : InsOk k L (i + 1) false ∧ insU k L (i + 1) false = insU k L i false ++ [x] := by
  refine ⟨⟨fun _ p hp => ?_, fun e => by cases e⟩, by unfold insU; simp only [Bool.false_eq_true, if_false]; exact take_next hx⟩
  rw [take_next hx] at hp
  rcases List.mem_append.1 hp with q | q
  · exact h.no rfl p q
  · rw [List.mem_singleton.1 q]; omega
theorem InsOk.put {k : Int} {L : List (Int × Int)} {i : Nat} (h : InsOk k L i false) {x : Int × Int} (hx : L[i]? = some x) (hg : k < x.1) : InsOk k L (i + 1) true ∧ insU k L (i + 1) true = insU k L i false ++ [(k, 1)] ++ [x] := by
  refine ⟨⟨fun e => (by cases e), fun _ => ⟨x, by rw [take_next hx]; simp, hg⟩⟩, ?_⟩
  unfold insU
  simp only [if_true, Bool.false_eq_true, if_false]
  rw [take_next hx, ins_behind k 1 _ _ (h.no rfl)]
  unfold insH
  rw [if_pos hg]
  simp
theorem InsOk.more {k : Int} {L : List (Int × Int)} {i : Nat} (h : InsOk k L i true) {x : Int × Int} (hx : L[i]? = some x) : InsOk k L (i + 1) true ∧ insU k L (i + 1) true = insU k L i true ++ [x] := by
  have hy := h.yes rfl
  refine ⟨⟨fun e => (by cases e), fun _ => ?_⟩, ?_⟩
  · obtain ⟨p, hp, h2⟩ := hy
    exact ⟨p, by rw [take_next hx]; exact List.mem_append_left _ hp, h2⟩
  · unfold insU
    simp only [if_true]
    rw [take_next hx, ins_ahead k 1 _ _ hy]
theorem ins_done {k : Int} {L : List (Int × Int)} (hn : getH L k = none) : insU k L L.length true = putH L k 1 := by
  unfold insU putH
  rw [if_pos rfl, List.take_length, del_none hn]
theorem InsOk.last {k : Int} {L : List (Int × Int)} (h : InsOk k L L.length false) (hn : getH L k = none) : insU k L L.length false ++ [(k, 1)] = putH L k 1 := by
  have h1 := h.no rfl
  unfold insU putH
  rw [List.take_length] at h1
  simp only [Bool.false_eq_true, if_false]
  rw [List.take_length, del_none hn]
  have := ins_behind k 1 L [] h1
  rw [List.append_nil] at this
  rw [this]
  rfl
theorem insU_len (k : Int) (L : List (Int × Int)) (i : Nat) (d : Bool) : (insU k L i d).length ≤ L.length + 1 := by
  unfold insU
  split
  · rw [ins_len, List.length_take]; omega
  · rw [List.length_take]; omega
/-- One taken out, as far as it has gone. -/
def dwn (k : Int) (x : Int × Int) : Int × Int := if x.1 = k then (x.1, x.2 - 1) else x
def dpU (k : Int) (A : List (Int × Int)) : List (Int × Int) := (A.map (dwn k)).filter fun p => decide (0 < p.2)
def fnU (k : Int) (A : List (Int × Int)) : Bool := (getH A k).isSome
def lsU (k : Int) (A : List (Int × Int)) : Bool := match getH A k with | some h => h - 1 == 0 | none => false
theorem get_append (A B : List (Int × Int)) (k : Int) : getH (A ++ B) k = (getH A k).or (getH B k) := by
  unfold getH
  rw [List.find?_append]
  cases List.find? (fun p => decide (p.1 = k)) A <;> simp
theorem get_one (x : Int × Int) (k : Int) : getH [x] k = if x.1 = k then some x.2 else none := by
  unfold getH
  by_cases h : x.1 = k
  · simp [h]
  · simp [h]
theorem dp_other {k : Int} (A : List (Int × Int)) {x : Int × Int} (h : x.1 ≠ k) (h2 : 1 ≤ x.2) : dpU k (A ++ [x]) = dpU k A ++ [x] ∧ fnU k (A ++ [x]) = fnU k A ∧ lsU k (A ++ [x]) = lsU k A := by
  refine ⟨?_, ?_, ?_⟩
  · unfold dpU
    rw [List.map_append, List.filter_append]
    congr 1
    have h3 : (0 : Int) < x.2 := by omega
    simp [dwn, h, h3]
  · unfold fnU
    rw [get_append, get_one, if_neg h]
    simp
  · unfold lsU
    rw [get_append, get_one, if_neg h]
    simp
theorem dp_same {k : Int} {A : List (Int × Int)} {x : Int × Int} (h : x.1 = k) (hA : getH A k = none) : dpU k (A ++ [x]) = (if 0 < x.2 - 1 then dpU k A ++ [(x.1, x.2 - 1)] else dpU k A) ∧ fnU k (A ++ [x]) = true ∧ lsU k (A ++ [x]) = (x.2 - 1 == 0) := by
  refine ⟨?_, ?_, ?_⟩
  · unfold dpU
    rw [List.map_append, List.filter_append]
    by_cases h3 : 0 < x.2 - 1
    · rw [if_pos h3]
      congr 1
      simp only [List.map_cons, List.map_nil, dwn, if_pos h]
      simp
      omega
    · rw [if_neg h3]
      simp only [List.map_cons, List.map_nil, dwn, if_pos h]
      simp
      omega
  · unfold fnU
    rw [get_append, get_one, if_pos h, hA]
    rfl
  · unfold lsU
    rw [get_append, get_one, if_pos h, hA]
    rfl
theorem dp_done {m : Int} {L : List (Int × Int)} {c : Nat} (ho : Dok m L c) {k : Int} (hf : fnU k L = true) : dpU k L = dropL L k ∧ lsU k L = dropB L k ∧ dropE L k = 0 := by
  unfold fnU at hf
  obtain ⟨h, hh⟩ := Option.isSome_iff_exists.1 hf
  have hv := ho.val _ (get_some hh)
  simp only at hv
  refine ⟨?_, ?_, ?_⟩
  · have hrd : Ris (dpU k L) := by
      refine List.Pairwise.filter _ ?_
      rw [List.pairwise_map]
      refine ho.ris.imp fun {p q} e => ?_
      unfold dwn
      split <;> split <;> simpa using e
    have hmem : ∀ p, p ∈ dpU k L ↔ (p ∈ L ∧ p.1 ≠ k) ∨ (p = (k, h - 1) ∧ 1 < h) := fun p => by
      unfold dpU
      rw [List.mem_filter, List.mem_map]
      constructor
      · rintro ⟨⟨x, hx, rfl⟩, h2⟩
        simp only [decide_eq_true_eq] at h2
        unfold dwn at h2 ⊢
        by_cases q : x.1 = k
        · rw [if_pos q] at h2 ⊢
          simp only at h2
          have hx2 := ris_inj ho.ris hx (get_some hh) q
          subst hx2
          exact .inr ⟨rfl, by simp only at h2; omega⟩
        · rw [if_neg q]
          exact .inl ⟨hx, q⟩
      · rintro (⟨h1, h2⟩ | ⟨rfl, h2⟩)
        · refine ⟨⟨p, h1, by unfold dwn; rw [if_neg h2]⟩, ?_⟩
          have := ho.val p h1
          simp
          omega
        · refine ⟨⟨_, get_some hh, by unfold dwn; rw [if_pos rfl]⟩, ?_⟩
          simp
          omega
    unfold dropL
    rw [hh]
    simp only
    by_cases q : 1 < h
    · rw [if_pos q]
      refine ris_ext hrd (put_ris ho.ris _ _) fun p => ?_
      rw [hmem, put_mem]
      constructor
      · rintro (r | ⟨r, _⟩)
        · exact .inr r
        · exact .inl r
      · rintro (r | r)
        · exact .inr ⟨r, q⟩
        · exact .inl r
    · rw [if_neg q]
      refine ris_ext hrd (del_ris ho.ris _) fun p => ?_
      rw [hmem, del_mem]
      constructor
      · rintro (r | ⟨_, r⟩)
        · exact r
        · exact absurd r q
      · exact .inl
  · unfold lsU dropB
    rw [hh]
    simp only
    by_cases q : h = 1
    · subst q; decide
    · have q1 : 1 < h := by omega
      have q2 : ¬ h - 1 = 0 := by omega
      simp [q1, q2]
  · unfold dropE
    rw [hh]
theorem dp_none {L : List (Int × Int)} {k : Int} (hf : fnU k L = false) : dropL L k = L ∧ dropB L k = false ∧ dropE L k = 2 := by
  have hn : getH L k = none := by
    unfold fnU at hf
    cases e : getH L k with
    | none => rfl
    | some u => rw [e] at hf; cases hf
  unfold dropL dropB dropE
  rw [hn]
  exact ⟨rfl, rfl, rfl⟩
theorem dpU_len (k : Int) (A : List (Int × Int)) : (dpU k A).length ≤ A.length := by
  unfold dpU
  refine Nat.le_trans (List.length_filter_le _ _) ?_
  rw [List.length_map]
  exact Nat.le_refl _
end Go.Proofs.Ytpghalekcgnefaa
