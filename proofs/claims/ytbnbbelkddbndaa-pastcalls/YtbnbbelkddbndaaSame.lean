/- oneSize and Same: whether two images may be and hold the same; no condition but that lists are not longer than lists can be. -/
import Derived.Test.YtbnbbelkddbndaaEqual
namespace Go.Proofs.Ytbnbbelkddbndaa
open Go.RowKit Go.Maps
/-- Two images that may be, with as many blocks. -/
def oneB (n : Int) (s : List Cel) (m : Int) (t : List Cel) : Bool := (n == m) && mayB n s && mayB m t
theorem below3 {a b c : World} (h : Below a.heap.size a b) (k : Below b.heap.size b c) : Below a.heap.size a c := h.trans (k.mono h.size)
set_option maxRecDepth 20000 in
theorem one_any (n : Int) (s : List Cel) (p : Option Addr) (cp : Nat) (m : Int) (t : List Cel) (q : Option Addr) (cq : Nat) (w : World) (hls : s.length < 9223372036854775807) (hlt : t.length < 9223372036854775807) (hs : ImgAt w p s) (ht : ImgAt w q t) :
    Calls Try.prog 59 #[.agg #[.int .i64 n, .slice p s.length cp], .agg #[.int .i64 m, .slice q t.length cq]] w fun e w' => e = .returned (.bool (oneB n s m t)) ∧ Below w.heap.size w w' := by
  have hB : Below w.heap.size w ((w.alloc (.cells #[.int .i64 n, .slice p s.length cp] 24)).alloc (.cells #[.int .i64 m, .slice q t.length cq] 24)) := (((Below.refl _ _).alloc (Nat.le_refl _) _).alloc (by simp) _)
  by_cases hnm : n = m
  · subst hnm
    have hG : ((w.alloc (.cells #[.int .i64 n, .slice p s.length cp] 24)).alloc (.cells #[.int .i64 n, .slice q t.length cq] 24)).heap[w.heap.size + 1]? = some (.cells #[.int .i64 n, .slice q t.length cq] 24) := by
      have := heap_alloc_new (w.alloc (.cells #[.int .i64 n, .slice p s.length cp] 24)) (.cells #[.int .i64 n, .slice q t.length cq] 24)
      rwa [show (w.alloc (.cells #[.int .i64 n, .slice p s.length cp] 24)).heap.size = w.heap.size + 1 by simp] at this
    have h1 := whole_any n s p cp _ hls (hs.later hB)
    have HT : Hid (ImgAt w q t) := ht
    clear hs ht
    cases hm : mayB n s
    · have e0 : wholeE n s = 2 := by unfold wholeE; rw [hm]; rfl
      have e1 : oneB n s n t = false := by unfold oneB; rw [hm]; simp
      rw [e0] at h1
      rw [e1]
      go_enter Try.func59, Try.ntmps59
      go_wp2_with (go_at_call 22; refine h1.mono ?_; rintro e W1 ⟨rfl, hb1⟩)
      go_ret
      exact ⟨rfl, below3 hB hb1⟩
    · have e0 : wholeE n s = 0 := by unfold wholeE; rw [hm]; rfl
      have e1 : oneB n s n t = mayB n t := by unfold oneB; rw [hm]; simp
      rw [e0] at h1
      rw [e1]
      go_enter Try.func59, Try.ntmps59
      go_wp2_with (go_at_call 22; fail)
      refine h1.mono ?_
      rintro e W1 ⟨rfl, hb1⟩
      have h2 := whole_any n t q cq W1 hlt (HT.out.later (below3 hB hb1))
      have hG1 := (hb1.block (w.heap.size + 1) (Array.getElem?_eq_some_iff.1 hG).1).trans hG
      have i0 : W1.cell? ⟨w.heap.size + 1, 0, none⟩ = some (.int .i64 n) := Joins.cell_of_block hG1 0
      have i1 : W1.cell? ⟨w.heap.size + 1, 1, none⟩ = some (.slice q t.length cq) := Joins.cell_of_block hG1 1
      have HB1 : Hid (Below w.heap.size w W1) := below3 hB hb1
      clear h1 hb1 hG hG1 hB
      cases hm2 : mayB n t
      · have e2 : wholeE n t = 2 := by unfold wholeE; rw [hm2]; rfl
        rw [e2] at h2
        go_wp2_with (go_at_call 22; refine h2.mono ?_; rintro e W2 ⟨rfl, hb2⟩)
        go_ret
        exact ⟨by rw [hm2]; rfl, below3 HB1.out hb2⟩
      · have e2 : wholeE n t = 0 := by unfold wholeE; rw [hm2]; rfl
        rw [e2] at h2
        go_wp2_with (go_at_call 22; refine h2.mono ?_; rintro e W2 ⟨rfl, hb2⟩)
        go_ret
        exact ⟨by rw [hm2]; rfl, below3 HB1.out hb2⟩
  · have e1 : oneB n s m t = false := by unfold oneB; simp [hnm]
    have hd : decide (n = m) = false := decide_eq_false hnm
    rw [e1]
    clear hs ht
    go_enter Try.func59, Try.ntmps59
    go_wp2
    go_ret
    exact ⟨rfl, hB⟩
/-- What Same tells. -/
def sameI (n : Int) (s : List Cel) (m : Int) (t : List Cel) : Bool := oneB n s m t && celsB s t
set_option maxRecDepth 20000 in
theorem same_any (n : Int) (s : List Cel) (p : Option Addr) (cp : Nat) (m : Int) (t : List Cel) (q : Option Addr) (cq : Nat) (w : World) (hls : s.length < 9223372036854775807) (hlt : t.length < 9223372036854775807) (hs : ImgAt w p s) (ht : ImgAt w q t) :
    Calls Try.prog 23 #[.agg #[.int .i64 n, .slice p s.length cp], .agg #[.int .i64 m, .slice q t.length cq]] w fun e w' => e = .returned (.bool (sameI n s m t)) ∧ Below w.heap.size w w' := by
  have hB : Below w.heap.size w ((w.alloc (.cells #[.int .i64 n, .slice p s.length cp] 24)).alloc (.cells #[.int .i64 m, .slice q t.length cq] 24)) := (((Below.refl _ _).alloc (Nat.le_refl _) _).alloc (by simp) _)
  have hG : ((w.alloc (.cells #[.int .i64 n, .slice p s.length cp] 24)).alloc (.cells #[.int .i64 m, .slice q t.length cq] 24)).heap[w.heap.size + 1]? = some (.cells #[.int .i64 m, .slice q t.length cq] 24) := by
    have := heap_alloc_new (w.alloc (.cells #[.int .i64 n, .slice p s.length cp] 24)) (.cells #[.int .i64 m, .slice q t.length cq] 24)
    rwa [show (w.alloc (.cells #[.int .i64 n, .slice p s.length cp] 24)).heap.size = w.heap.size + 1 by simp] at this
  have hG0 : ((w.alloc (.cells #[.int .i64 n, .slice p s.length cp] 24)).alloc (.cells #[.int .i64 m, .slice q t.length cq] 24)).heap[w.heap.size]? = some (.cells #[.int .i64 n, .slice p s.length cp] 24) := heap_kept (heap_alloc_new w _) (below_new _ _)
  have h1 := one_any n s p cp m t q cq _ hls hlt (hs.later hB) (ht.later hB)
  have HS : Hid (ImgAt w p s) := hs
  have HT : Hid (ImgAt w q t) := ht
  clear hs ht
  cases ho : oneB n s m t
  · have e1 : sameI n s m t = false := by unfold sameI; rw [ho]; rfl
    rw [ho] at h1
    rw [e1]
    go_enter Try.func23, Try.ntmps23
    go_wp2_with (go_at_call 59; refine h1.mono ?_; rintro e W1 ⟨rfl, hb1⟩)
    go_ret
    exact ⟨rfl, below3 hB hb1⟩
  · have e1 : sameI n s m t = celsB s t := by unfold sameI; rw [ho]; rfl
    rw [ho] at h1
    rw [e1]
    go_enter Try.func23, Try.ntmps23
    go_wp2_with (go_at_call 59; fail)
    refine h1.mono ?_
    rintro e W1 ⟨rfl, hb1⟩
    have hB1 := below3 hB hb1
    have h2 := equal_any s t p q cp cq W1 hls hlt (HS.out.later hB1) (HT.out.later hB1)
    have hG1 := (hb1.block (w.heap.size + 1) (Array.getElem?_eq_some_iff.1 hG).1).trans hG
    have hG2 := (hb1.block w.heap.size (Array.getElem?_eq_some_iff.1 hG0).1).trans hG0
    have i1 : W1.cell? ⟨w.heap.size + 1, 1, none⟩ = some (.slice q t.length cq) := Joins.cell_of_block hG1 1
    have i2 : W1.cell? ⟨w.heap.size, 1, none⟩ = some (.slice p s.length cp) := Joins.cell_of_block hG2 1
    clear h1 hb1 hG hG0 hG1 hG2 hB
    go_wp2_with (go_at_call 60; refine h2.mono ?_; rintro e W2 ⟨rfl, hb2⟩)
    go_ret
    exact ⟨rfl, below3 hB1 hb2⟩
end Go.Proofs.Ytbnbbelkddbndaa
