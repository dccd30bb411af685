/- Two lists of the same pieces are told to be the same; no condition. -/
import Derived.Test.YtcimehjcajdfiabPieces
namespace Go.Proofs.Ytcimehjcajdfiab
open Go.RowKit Go.Maps
/-- Pieces that lie in memory. -/
def PcsAt (w : World) (p : Option Addr) (l : List (Int × Int)) : Prop := 0 < l.length → ∃ g, p = some ⟨g, 0, none⟩ ∧ g < w.heap.size ∧ ∀ (i : Nat) x, l[i]? = some x → w.cell? ⟨g, i * 2, none⟩ = some (.int .i64 x.1) ∧ w.cell? ⟨g, i * 2 + 1, none⟩ = some (.int .i64 x.2)
theorem OwnP.at {w : World} {base : Nat} {v : Value} {l : List (Int × Int)} (h : OwnP w base v l) : ∃ p c, v = .slice p l.length c ∧ PcsAt w p l ∧ ∀ g o, p = some ⟨g, o, none⟩ → base ≤ g := by
  unfold OwnP at h
  rcases own_form h with ⟨rfl, h0⟩ | ⟨g, c, rfl, hlt⟩
  · exact ⟨none, 0, by rw [h0], fun q => by omega, fun _ _ q => by cases q⟩
  · refine ⟨_, c, rfl, fun _ => ⟨g, rfl, hlt, fun i x hx => ?_⟩, fun g' o q => by
      have := (h.lt g rfl).1
      injection q with q
      injection q with q
      omega⟩
    have hc := own_get pc2_len h hx
    exact ⟨hc 0 _ rfl, hc 1 _ rfl⟩
theorem PcsAt.later {w W : World} {p : Option Addr} {l : List (Int × Int)} (h : PcsAt w p l) (hb : Below w.heap.size w W) : PcsAt W p l := fun h0 => by
  obtain ⟨g, h1, h2, h3⟩ := h h0
  exact ⟨g, h1, Nat.lt_of_lt_of_le h2 hb.size, fun i x hx => ⟨(hb.cell (p := ⟨g, i * 2, none⟩) h2).trans (h3 i x hx).1, (hb.cell (p := ⟨g, i * 2 + 1, none⟩) h2).trans (h3 i x hx).2⟩⟩
end Go.Proofs.Ytcimehjcajdfiab
