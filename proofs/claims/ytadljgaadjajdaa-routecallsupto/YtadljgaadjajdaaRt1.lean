/- Paths and names as lists of bytes: cut at strokes, put together; no condition. -/
import Derived.Test.YtadljgaadjajdaaEn1
namespace Go.Proofs.Ytadljgaadjajdaa
open Go.RowKit Go.Maps
/-- A text's bytes, and bytes as a text. -/
def bl (s : ByteArray) : List UInt8 := s.data.toList
def mkT (l : List UInt8) : ByteArray := ⟨l.toArray⟩
theorem bl_mk (l : List UInt8) : bl (mkT l) = l := rfl
theorem mk_bl (s : ByteArray) : mkT (bl s) = s := rfl
theorem bl_len (s : ByteArray) : (bl s).length = s.size := rfl
theorem bl_app (s t : ByteArray) : bl (s ++ t) = bl s ++ bl t := by simp [bl, ByteArray.data_append]
theorem bl_ext {s t : ByteArray} (h : bl s = bl t) : s = t := by rw [← mk_bl s, h, mk_bl]
theorem mkT_app (a b : List UInt8) : mkT (a ++ b) = mkT a ++ mkT b := bl_ext (by rw [bl_app]; rfl)
theorem bl_get (s : ByteArray) (i : Nat) (h : i < s.size) : (bl s)[i]? = some s[i] := by
  unfold bl
  rw [Array.getElem?_toList, Array.getElem?_eq_getElem h]
  rfl
theorem byt_some (s : ByteArray) (i : Nat) (h : i < s.size) : byt s i = (s[i].toNat : Int) := by unfold byt; rw [dif_pos h]
theorem byt_is (s : ByteArray) (i : Nat) (c : UInt8) (h : (bl s)[i]? = some c) : byt s i = (c.toNat : Int) := by
  have hi : i < s.size := (List.getElem?_eq_some_iff.1 h).1
  rw [bl_get s i hi] at h
  injection h with h
  rw [byt_some s i hi, h]
theorem byt_stroke {s : ByteArray} {i : Nat} {c : UInt8} (h : (bl s)[i]? = some c) : byt s i = 47 ↔ c = 47 := by
  rw [byt_is s i c h]
  constructor
  · intro q
    apply UInt8.toNat_inj.1
    have : ((47 : UInt8).toNat : Int) = 47 := rfl
    omega
  · intro q
    subst q
    rfl
theorem byt_nought {s : ByteArray} {i : Nat} {c : UInt8} (h : (bl s)[i]? = some c) : byt s i = 0 ↔ c = 0 := by
  rw [byt_is s i c h]
  constructor
  · intro q
    apply UInt8.toNat_inj.1
    have : ((0 : UInt8).toNat : Int) = 0 := rfl
    omega
  · intro q
    subst q
    rfl
theorem bl_extract (s : ByteArray) (a b : Nat) : bl (s.extract a b) = ((bl s).take b).drop a := by
  unfold bl
  rw [ByteArray.data_extract]
  simp [List.extract_eq_take_drop, List.drop_take]
/-- The pieces between strokes. -/
def pcs : List UInt8 → List (List UInt8)
  | [] => [[]]
  | c :: t => if c = 47 then [] :: pcs t else match pcs t with
    | [] => [[c]]
    | p :: q => (c :: p) :: q
/-- The names. -/
def nms (l : List UInt8) : List (List UInt8) := (pcs l).filter fun p => !p.isEmpty
theorem pcs_cons (c : UInt8) (t : List UInt8) : pcs (c :: t) = if c = 47 then [] :: pcs t else match pcs t with
    | [] => [[c]]
    | p :: q => (c :: p) :: q := rfl
theorem pcs_ne : ∀ l, pcs l ≠ []
  | [] => by simp [pcs]
  | c :: t => by
    unfold pcs
    split
    · simp
    · split <;> simp
theorem pcs_app (t : List UInt8) : ∀ a : List UInt8, pcs (a ++ 47 :: t) = pcs a ++ pcs t
  | [] => by simp [pcs]
  | c :: a => by
    have ih := pcs_app t a
    rw [List.cons_append, pcs_cons, pcs_cons c a, ih]
    by_cases h : c = 47
    · rw [if_pos h, if_pos h]; rfl
    · rw [if_neg h, if_neg h]
      cases hq : pcs a with
      | nil => exact absurd hq (pcs_ne a)
      | cons p q => rfl
theorem pcs_none : ∀ a : List UInt8, (∀ c ∈ a, c ≠ 47) → pcs a = [a]
  | [], _ => rfl
  | c :: a, h => by
    unfold pcs
    rw [if_neg (h c (by simp)), pcs_none a fun x hx => h x (by simp [hx])]
theorem nms_nil : nms [] = [] := rfl
theorem nms_stroke (t : List UInt8) : nms (47 :: t) = nms t := by simp [nms, pcs]
theorem nms_app (a t : List UInt8) : nms (a ++ 47 :: t) = nms a ++ nms t := by unfold nms; rw [pcs_app, List.filter_append]
theorem nms_none {a : List UInt8} (h : ∀ c ∈ a, c ≠ 47) : nms a = if a = [] then [] else [a] := by
  unfold nms
  rw [pcs_none a h]
  cases a <;> simp
theorem nms_strokes (t : List UInt8) : ∀ a : List UInt8, (∀ c ∈ a, c = 47) → nms (a ++ t) = nms t
  | [], _ => rfl
  | c :: a, h => by
    rw [h c (by simp), List.cons_append, nms_stroke, nms_strokes t a fun x hx => h x (by simp [hx])]
theorem pcs_mem : ∀ (l p : List UInt8), p ∈ pcs l → ∀ c ∈ p, c ≠ 47 ∧ c ∈ l
  | [], p, h, c, hc => by
    simp [pcs] at h
    subst h
    cases hc
  | d :: t, p, h, c, hc => by
    unfold pcs at h
    by_cases e : d = 47
    · rw [if_pos e] at h
      rcases List.mem_cons.1 h with h | h
      · subst h; cases hc
      · have := pcs_mem t p h c hc
        exact ⟨this.1, List.mem_cons_of_mem _ this.2⟩
    · rw [if_neg e] at h
      cases hq : pcs t with
      | nil => exact absurd hq (pcs_ne t)
      | cons x y =>
        rw [hq] at h
        rcases List.mem_cons.1 h with h | h
        · subst h
          rcases List.mem_cons.1 hc with hc | hc
          · subst hc; exact ⟨e, by simp⟩
          · have := pcs_mem t x (by rw [hq]; simp) c hc
            exact ⟨this.1, List.mem_cons_of_mem _ this.2⟩
        · have := pcs_mem t p (by rw [hq]; simp [h]) c hc
          exact ⟨this.1, List.mem_cons_of_mem _ this.2⟩
theorem nms_mem {l p : List UInt8} (h : p ∈ nms l) : p ≠ [] ∧ ∀ c ∈ p, c ≠ 47 ∧ c ∈ l := by
  unfold nms at h
  obtain ⟨h1, h2⟩ := List.mem_filter.1 h
  refine ⟨fun q => ?_, pcs_mem l p h1⟩
  rw [q] at h2
  cases h2
/-- A stroke ahead of each. -/
def jl (L : List (List UInt8)) : List UInt8 := L.flatMap fun p => 47 :: p
def joinP (L : List (List UInt8)) : List UInt8 := if L = [] then [47] else jl L
theorem jl_cons (p : List UInt8) (L : List (List UInt8)) : jl (p :: L) = 47 :: (p ++ jl L) := by simp [jl]
theorem jl_snoc (L : List (List UInt8)) (p : List UInt8) : jl (L ++ [p]) = jl L ++ (47 :: p) := by simp [jl]
theorem jl_head : ∀ L : List (List UInt8), jl L = [] ∨ ∃ t, jl L = 47 :: t
  | [] => .inl rfl
  | p :: L => .inr ⟨_, jl_cons p L⟩
theorem nms_jl : ∀ L : List (List UInt8), (∀ p ∈ L, p ≠ [] ∧ ∀ c ∈ p, c ≠ 47) → nms (jl L) = L
  | [], _ => rfl
  | p :: L, h => by
    have ih := nms_jl L fun q hq => h q (by simp [hq])
    obtain ⟨h1, h2⟩ := h p (by simp)
    rw [jl_cons, nms_stroke]
    rcases jl_head L with e | ⟨t, e⟩
    · have : L = [] := by
        cases L with
        | nil => rfl
        | cons a b => rw [jl_cons] at e; cases e
      rw [e, List.append_nil, nms_none h2, if_neg h1, this]
    · rw [e, nms_app, nms_none h2, if_neg h1]
      rw [e, nms_stroke] at ih
      rw [ih]
      rfl
theorem nms_joinP {L : List (List UInt8)} (h : ∀ p ∈ L, p ≠ [] ∧ ∀ c ∈ p, c ≠ 47) : nms (joinP L) = L := by
  unfold joinP
  split
  · rename_i q; rw [q]; rfl
  · exact nms_jl L h
theorem nms_end (l : List UInt8) : nms (l ++ [47]) = nms l := by rw [nms_app, nms_nil, List.append_nil]
theorem jl_len_pcs : ∀ l : List UInt8, (jl (pcs l)).length = l.length + 1
  | [] => rfl
  | c :: t => by
    have ih := jl_len_pcs t
    unfold pcs
    by_cases e : c = 47
    · rw [if_pos e, jl_cons, List.length_cons, List.nil_append, ih]
      rfl
    · rw [if_neg e]
      cases hq : pcs t with
      | nil => exact absurd hq (pcs_ne t)
      | cons x y =>
        rw [hq, jl_cons, List.length_cons, List.length_append] at ih
        simp only [jl_cons, List.length_cons, List.length_append]
        omega
theorem jl_len_filter (P : List UInt8 → Bool) : ∀ L : List (List UInt8), (jl (L.filter P)).length ≤ (jl L).length
  | [] => Nat.le_refl _
  | p :: L => by
    have ih := jl_len_filter P L
    rw [List.filter_cons, jl_cons]
    split
    · rw [jl_cons]
      simp only [List.length_cons, List.length_append]
      omega
    · simp only [List.length_cons, List.length_append]
      omega
theorem jl_len_nms (t : List UInt8) : (jl (nms (47 :: t))).length ≤ t.length + 1 := by
  rw [nms_stroke]
  have h := jl_len_filter (fun p => !p.isEmpty) (pcs t)
  rw [jl_len_pcs] at h
  exact h
theorem len_jl : ∀ L : List (List UInt8), L.length ≤ (jl L).length
  | [] => Nat.le_refl _
  | p :: L => by
    have := len_jl L
    rw [jl_cons]
    simp only [List.length_cons, List.length_append]
    omega
theorem nms_len (l : List UInt8) : (nms l).length ≤ l.length + 1 := by
  have h1 := len_jl (nms l)
  have h2 := jl_len_filter (fun p => !p.isEmpty) (pcs l)
  rw [jl_len_pcs] at h2
  exact Nat.le_trans h1 h2
/-- May a path be? -/
def okL (l : List UInt8) : Bool := decide (l[0]? = some 47) && decide (l.length ≤ 1024) && decide (0 ∉ l)
def lnL (L : List (List UInt8)) : Bool := L.any fun p => decide (14 < p.length)
/-- What Parse answers: the error, the names. -/
def prE (l : List UInt8) : Int := if okL l then (if lnL (nms l) then 12 else 0) else 4
def prL (l : List UInt8) : List (List UInt8) := if okL l then (if lnL (nms l) then [] else nms l) else []
theorem prE_ok {l : List UInt8} (h : okL l = true) (h2 : lnL (nms l) = false) : prE l = 0 := by unfold prE; rw [h, h2]; rfl
theorem prL_ok {l : List UInt8} (h : okL l = true) (h2 : lnL (nms l) = false) : prL l = nms l := by unfold prL; rw [h, h2]; rfl
theorem prE_bad {l : List UInt8} (h : okL l = false) : prE l = 4 := by unfold prE; rw [h]; rfl
theorem prL_bad {l : List UInt8} (h : okL l = false) : prL l = [] := by unfold prL; rw [h]; rfl
theorem prE_long {l : List UInt8} (h : okL l = true) (h2 : lnL (nms l) = true) : prE l = 12 := by unfold prE; rw [h, h2]; rfl
theorem prL_long {l : List UInt8} (h : okL l = true) (h2 : lnL (nms l) = true) : prL l = [] := by unfold prL; rw [h, h2]; rfl
theorem prE_zero {l : List UInt8} (h : prE l = 0) : okL l = true ∧ lnL (nms l) = false := by
  unfold prE at h
  by_cases a : okL l = true
  · by_cases b : lnL (nms l) = true
    · rw [a, b] at h; cases h
    · exact ⟨a, by simpa using b⟩
  · rw [if_neg a] at h; cases h
theorem okL_iff (l : List UInt8) : okL l = true ↔ l[0]? = some 47 ∧ l.length ≤ 1024 ∧ 0 ∉ l := by simp [okL, and_assoc]
end Go.Proofs.Ytadljgaadjajdaa
