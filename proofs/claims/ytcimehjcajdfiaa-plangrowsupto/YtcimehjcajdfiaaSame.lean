/- Two lists of the same pieces are told to be the same; no condition. -/
import Derived.Test.YtcimehjcajdfiaaPieces
namespace Go.Proofs.Ytcimehjcajdfiaa
open Go.RowKit Go.Maps
/-- Pieces that lie in memory. -/
def PcsAt (w : World) (p : Option Addr) (l : List (Int × Int)) : Prop := 0 < l.length → ∃ g, p = some ⟨g, 0, none⟩ ∧ g < w.heap.size ∧ ∀ (i : Nat) x, l[i]? = some x → w.cell? ⟨g, i * 2, none⟩ = some (.int .i64 x.1) ∧ w.cell? ⟨g, i * 2 + 1, none⟩ = some (.int .i64 x.2)
theorem OwnP.at {w : World} {base : Nat} {v : Value} {l : List (Int × Int)} (h : OwnP w base v l) : ∃ p c, v = .slice p l.length c ∧ PcsAt w p l ∧ ∀ g o, p = some ⟨g, o, none⟩ → base ≤ g := by
  unfold OwnP at h
  rcases own_form h with ⟨rfl, h0⟩ | ⟨g, c, rfl, hlt⟩
  · exact ⟨none, 0, by rw [h0], fun q => by omega, fun _ _ q => by cases q⟩
  · refine ⟨_, c, rfl, fun _ => ⟨g, rfl, hlt, fun i x hx => ?_⟩, fun g' o q => by
      have := (h.lt g rfl).1
      injection q with q
      injection q with q
      omega⟩
    have hc := own_get pc2_len h hx
    exact ⟨hc 0 _ rfl, hc 1 _ rfl⟩
theorem PcsAt.later {w W : World} {p : Option Addr} {l : List (Int × Int)} (h : PcsAt w p l) (hb : Below w.heap.size w W) : PcsAt W p l := fun h0 => by
  obtain ⟨g, h1, h2, h3⟩ := h h0
  exact ⟨g, h1, Nat.lt_of_lt_of_le h2 hb.size, fun i x hx => ⟨(hb.cell (p := ⟨g, i * 2, none⟩) h2).trans (h3 i x hx).1, (hb.cell (p := ⟨g, i * 2 + 1, none⟩) h2).trans (h3 i x hx).2⟩⟩
set_option maxRecDepth 20000 in
set_option maxHeartbeats 1000000 in
theorem same_self (l : List (Int × Int)) (p q : Option Addr) (cp cq : Nat) (w : World) (hls : l.length < 9223372036854775807) (hs : PcsAt w p l) (ht : PcsAt w q l) :
    Calls Try.prog 11 #[.slice p l.length cp, .slice q l.length cq] w fun e w' => e = .returned (.bool true) ∧ Below w.heap.size w w' := by
  have HS : Hid (PcsAt w p l) := hs
  have HT : Hid (PcsAt w q l) := ht
  obtain ⟨n, hn⟩ : ∃ n, l.length = n := ⟨_, rfl⟩
  rw [hn] at hls ⊢
  have HL : Hid (l.length = n) := hn
  clear hs ht hn
  go_enter Try.func11, Try.ntmps11
  go_wp2
  go_loopw [5] (fun s5 wx => ∃ k : Nat, k ≤ n ∧ s5 = .int .i64 k ∧ Hid (Below w.heap.size w wx)) (fun s5 _ => n - (intOf s5).toNat)
  case atStart => exact ⟨0, by omega, rfl, Below.refl _ _⟩
  case round =>
    obtain ⟨k, hk, rfl, HB⟩ := hrel
    by_cases hk2 : (k : Int) < n
    · have hn := HL.out
      have hc : l[k]? = some l[k] := List.getElem?_eq_getElem (by omega)
      obtain ⟨g1, rfl, l1, C1⟩ := HS.out (by omega)
      obtain ⟨g2, rfl, l2, C2⟩ := HT.out (by omega)
      obtain ⟨a1, a2⟩ := C1 k _ hc
      obtain ⟨b1, b2⟩ := C2 k _ hc
      generalize l[k] = x at *
      obtain ⟨x1, x2⟩ := x
      have q1 : wr.cell? ⟨g1, k * 2, none⟩ = some (.int .i64 x1) := (HB.out.cell (p := ⟨g1, k * 2, none⟩) l1).trans a1
      have q2 : wr.cell? ⟨g1, k * 2 + 1, none⟩ = some (.int .i64 x2) := (HB.out.cell (p := ⟨g1, k * 2 + 1, none⟩) l1).trans a2
      have q3 : wr.cell? ⟨g2, k * 2, none⟩ = some (.int .i64 x1) := (HB.out.cell (p := ⟨g2, k * 2, none⟩) l2).trans b1
      have q4 : wr.cell? ⟨g2, k * 2 + 1, none⟩ = some (.int .i64 x2) := (HB.out.cell (p := ⟨g2, k * 2 + 1, none⟩) l2).trans b2
      clear C1 C2 a1 a2 b1 b2 hc hn
      go_wp2
      go_quiet (fail)
      go_wp2
      exact ⟨⟨k + 1, by omega, by go_num, belowN HB.out _⟩, by simp [intOf]; omega⟩
    · obtain rfl : k = n := by omega
      go_wp2
      go_ret
      exact ⟨rfl, HB.out⟩
end Go.Proofs.Ytcimehjcajdfiaa
