/- What FdsScript keeps of a walk over a table of ints: the iterator, and what it must go over; it is gone over again as it was; tables of at most a million rows. -/
import Derived.Test.YtbchbappdpbkiaaFdS9
import Derived.Test.YtbchbappdpbkiaaFdeI
namespace Go.Proofs.Ytbchbappdpbkiaa
open Go.RowKit Go.Maps
structure ItI where
  q : Nat
  v : Value
  pF : Option Addr
  cF : Nat
  pV : Option Addr
  cV : Nat
  R : List (Option Int)
def fnI (x : ItI) : Value := .func (.func 58) #[] #[.pointer (some ⟨x.q, 0, none⟩)]
def vFI (x : ItI) : Value := .slice x.pF (cnt x.R) x.cF
def vVI (x : ItI) : Value := .slice x.pV (cnt x.R) x.cV
def itI (x : ItI) : Part := ⟨fun k => k = x.q ∨ x.v.ownBlock = some k ∨ (vFI x).ownBlock = some k ∨ (vVI x).ownBlock = some k, fun W => W.heap[x.q]? = some (.cells #[x.v] 43) ∧ W.ownsRow 0 92 2 x.v x.R.length (x.R.flatMap enI) ∧ W.ownsRow 0 3 1 (vFI x) (fsL x.R).length ((fsL x.R).flatMap inE) ∧ W.ownsRow 0 3 1 (vVI x) (vsL x.R).length ((vsL x.R).flatMap inE)⟩
theorem own_by {W W' : World} {B e sz n : Nat} {v : Value} {xs : List Value} (h : W.ownsRow B e sz v n xs) (hb : ∀ k, v.ownBlock = some k → W'.heap[k]? = W.heap[k]?) : W'.ownsRow B e sz v n xs := by
  obtain ⟨q, h2⟩ := h
  refine ⟨q, ?_⟩
  rcases h2 with h2 | ⟨b, cap, cur, rfl, hB, hh, h3⟩
  · exact .inl h2
  · exact .inr ⟨b, cap, cur, rfl, hB, (hb b rfl).trans hh, h3⟩
theorem itI_good (x : ItI) : (itI x).Good := fun W W' hs _ h => by
  obtain ⟨h1, h2, h3, h4⟩ := hs
  exact ⟨(h x.q (.inl rfl)).trans h1, own_by h2 fun k hk => h k (.inr (.inl hk)), own_by h3 fun k hk => h k (.inr (.inr (.inl hk))), own_by h4 fun k hk => h k (.inr (.inr (.inr hk)))⟩
def itsI (L : List ItI) : Part := ⟨fun k => ∃ x ∈ L, (itI x).own k, fun W => ∀ x ∈ L, (itI x).say W⟩
theorem itsI_good (L : List ItI) : (itsI L).Good := fun W W' hs hl h x hx => itI_good x W W' (hs x hx) (fun k hk => hl k ⟨x, hx, hk⟩) fun k hk => h k ⟨x, hx, hk⟩
theorem sep_itemI {w W : World} {l : List Part} {L : List ItI} {x : ItI} (h : Sep w W (itsI L :: itI x :: l)) : Sep w W (itsI (L ++ [x]) :: l) := by
  refine Sep.joinN (A := [itsI L, itI x]) h (itsI_good _) (fun y hy => ?_) fun k hk => ?_
  · rcases List.mem_append.1 hy with hy | hy
    · exact h.head y hy
    · rw [List.mem_singleton.1 hy]
      exact h.swap.head
  · obtain ⟨y, hy, hk⟩ := hk
    rcases List.mem_append.1 hy with hy | hy
    · exact ⟨itsI L, by simp, y, hy, hk⟩
    · rw [List.mem_singleton.1 hy] at hk
      exact ⟨itI x, by simp, hk⟩
theorem walk_itI {x : ItI} {W : World} (h : (itI x).say W) (hxl : x.R.length ≤ 900000) (most : Int) : Calls Try.prog 39 #[fnI x, vFI x, vVI x, .int .i64 most] W fun e W' => e = .returned (.bool true) ∧ Below W.heap.size W W' := by
  obtain ⟨h1, h2, h3, h4⟩ := h
  obtain ⟨p, cap, hv, hh, hp⟩ := HeldI.of h2
  rw [hv] at h1
  have e1 : (hl x.R).length = cnt x.R := by exact hl_len _
  have hF : ∀ i y, (hl x.R)[i]? = some y → ∃ b, x.pF = some ⟨b, 0, none⟩ ∧ W.cell? ⟨b, i, none⟩ = some (.int .i64 (y.1 : Int)) := fun i y hy => by
    have hz : (fsL x.R)[i]? = some (y.1 : Int) := by
      unfold fsL; rw [List.getElem?_map, hy]; rfl
    obtain ⟨p2, c2, e2, f2⟩ := iP_form (v := vFI x) (L := fsL x.R) h3
    unfold vFI at e2
    injection e2 with e2
    obtain ⟨b, q1, _, q2, _⟩ := f2 i _ hz
    exact ⟨b, by rw [e2]; exact q1, q2⟩
  have hV : ValI W x.pV ((hl x.R).map (·.2)) := fun i y hy => by
    have hz : (vsL x.R)[i]? = some y := by exact hy
    have hform := own_form h4
    rcases hform with ⟨e2, h0⟩ | ⟨b, c, e2, _⟩
    · have := (List.getElem?_eq_some_iff.1 hz).1
      omega
    · unfold vVI at e2
      injection e2 with e2 e3 e4
      have h5 : W.ownsRow 0 3 1 (.slice (some ⟨b, 0, none⟩) (cnt x.R) x.cV) (vsL x.R).length ((vsL x.R).flatMap inE) := by
        have := h4
        unfold vVI at this
        rwa [e2] at this
      rw [← e3] at h5
      have := own_get (lenin) h5 hz 0 _ rfl
      rw [Nat.mul_one, Nat.add_zero] at this
      exact ⟨b, e2, this⟩
  have := walk_inI (R := x.R) rfl (by omega) W x.q p cap h1 (fun g e => (hp g e).2) hh x.pF x.pV x.cF x.cV hF hV most
  rw [e1] at this
  exact callsIn_wide.1 this
end Go.Proofs.Ytbchbappdpbkiaa
