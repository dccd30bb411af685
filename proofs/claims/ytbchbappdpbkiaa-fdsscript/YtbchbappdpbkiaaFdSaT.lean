/- What FdsScript keeps of a walk over a table of texts: the iterator, and what it must go over; it is gone over again as it was; tables of at most a million rows. -/
import Derived.Test.YtbchbappdpbkiaaFdSaI
import Derived.Test.YtbchbappdpbkiaaFdeT
namespace Go.Proofs.Ytbchbappdpbkiaa
open Go.RowKit Go.Maps
structure ItT where
  q : Nat
  v : Value
  pF : Option Addr
  cF : Nat
  pV : Option Addr
  cV : Nat
  R : List (Option Int)
def fnT (x : ItT) : Value := .func (.func 63) #[] #[.pointer (some ⟨x.q, 0, none⟩)]
def vFT (x : ItT) : Value := .slice x.pF (cnt x.R) x.cF
def vVT (x : ItT) : Value := .slice x.pV (cnt x.R) x.cV
def itT (x : ItT) : Part := ⟨fun k => k = x.q ∨ x.v.ownBlock = some k ∨ (vFT x).ownBlock = some k ∨ (vVT x).ownBlock = some k, fun W => W.heap[x.q]? = some (.cells #[x.v] 62) ∧ W.ownsRow 0 96 2 x.v (mapR tx x.R).length ((mapR tx x.R).flatMap enT) ∧ W.ownsRow 0 3 1 (vFT x) (fsL x.R).length ((fsL x.R).flatMap inE) ∧ W.ownsRow 0 9 1 (vVT x) ((vsL x.R).map tx).length (((vsL x.R).map tx).flatMap stE)⟩
theorem itT_good (x : ItT) : (itT x).Good := fun W W' hs _ h => by
  obtain ⟨h1, h2, h3, h4⟩ := hs
  exact ⟨(h x.q (.inl rfl)).trans h1, own_by h2 fun k hk => h k (.inr (.inl hk)), own_by h3 fun k hk => h k (.inr (.inr (.inl hk))), own_by h4 fun k hk => h k (.inr (.inr (.inr hk)))⟩
def itsT (L : List ItT) : Part := ⟨fun k => ∃ x ∈ L, (itT x).own k, fun W => ∀ x ∈ L, (itT x).say W⟩
theorem itsT_good (L : List ItT) : (itsT L).Good := fun W W' hs hl h x hx => itT_good x W W' (hs x hx) (fun k hk => hl k ⟨x, hx, hk⟩) fun k hk => h k ⟨x, hx, hk⟩
theorem sep_itemT {w W : World} {l : List Part} {L : List ItT} {x : ItT} (h : Sep w W (itsT L :: itT x :: l)) : Sep w W (itsT (L ++ [x]) :: l) := by
  refine Sep.joinN (A := [itsT L, itT x]) h (itsT_good _) (fun y hy => ?_) fun k hk => ?_
  · rcases List.mem_append.1 hy with hy | hy
    · exact h.head y hy
    · rw [List.mem_singleton.1 hy]
      exact h.swap.head
  · obtain ⟨y, hy, hk⟩ := hk
    rcases List.mem_append.1 hy with hy | hy
    · exact ⟨itsT L, by simp, y, hy, hk⟩
    · rw [List.mem_singleton.1 hy] at hk
      exact ⟨itT x, by simp, hk⟩
theorem walk_itT {x : ItT} {W : World} (h : (itT x).say W) (hxl : x.R.length ≤ 900000) (most : Int) : Calls Try.prog 49 #[fnT x, vFT x, vVT x, .int .i64 most] W fun e W' => e = .returned (.bool true) ∧ Below W.heap.size W W' := by
  obtain ⟨h1, h2, h3, h4⟩ := h
  obtain ⟨p, cap, hv, hh, hp⟩ := HeldT.of h2
  rw [hv] at h1
  have e1 : (hl (mapR tx x.R)).length = cnt x.R := by rw [hl_len, cnt_map]
  have hF : ∀ i y, (hl (mapR tx x.R))[i]? = some y → ∃ b, x.pF = some ⟨b, 0, none⟩ ∧ W.cell? ⟨b, i, none⟩ = some (.int .i64 (y.1 : Int)) := fun i y hy => by
    have hz : (fsL x.R)[i]? = some (y.1 : Int) := by
      rw [hl_map, List.getElem?_map] at hy
      obtain ⟨z, hz, rfl⟩ := Option.map_eq_some_iff.1 hy
      unfold fsL
      rw [List.getElem?_map, hz]
      rfl
    obtain ⟨p2, c2, e2, f2⟩ := iP_form (v := vFT x) (L := fsL x.R) h3
    unfold vFT at e2
    injection e2 with e2
    obtain ⟨b, q1, _, q2, _⟩ := f2 i _ hz
    exact ⟨b, by rw [e2]; exact q1, q2⟩
  have hV : ValT W x.pV ((hl (mapR tx x.R)).map (·.2)) := fun i y hy => by
    have hz : ((vsL x.R).map tx)[i]? = some y := by rw [hl_map, List.map_map] at hy; unfold vsL; rw [List.map_map]; exact hy
    have hform := own_form h4
    rcases hform with ⟨e2, h0⟩ | ⟨b, c, e2, _⟩
    · have := (List.getElem?_eq_some_iff.1 hz).1
      omega
    · unfold vVT at e2
      injection e2 with e2 e3 e4
      have h5 : W.ownsRow 0 9 1 (.slice (some ⟨b, 0, none⟩) (cnt x.R) x.cV) ((vsL x.R).map tx).length (((vsL x.R).map tx).flatMap stE) := by
        have := h4
        unfold vVT at this
        rwa [e2] at this
      rw [← e3] at h5
      have := own_get (lenst) h5 hz 0 _ rfl
      rw [Nat.mul_one, Nat.add_zero] at this
      exact ⟨b, e2, this⟩
  have := walk_inT (R := (mapR tx x.R)) rfl (by rw [mapR_len]; omega) W x.q p cap h1 (fun g e => (hp g e).2) hh x.pF x.pV x.cF x.cV hF hV most
  rw [e1] at this
  exact callsIn_wide.1 this
end Go.Proofs.Ytbchbappdpbkiaa
