/- The document's desk: New, Len, Full, Holds, All, over a list of pairs in memory of its own; for lists of fewer than a million. -/
import Derived.Test.YtpghalekcgnefaaDk10
import Derived.Test.YtpghalekcgnefaaDk3
import Derived.Test.YtpghalekcgnefaaDk7
namespace Go.Proofs.Ytpghalekcgnefaa
open Go.RowKit Go.Maps
/-- The document's desk at g: so many, the list L in v. -/
structure RfAt (w : World) (g : Nat) (m : Int) (v : Value) (L : List (Int × Int)) : Prop where
  row : w.heap[g]? = some (.cells #[.int .i64 m, v] 54)
  own : w.ownsRow 0 57 2 v L.length (L.flatMap pc2)
def rfP (g : Nat) (m : Int) (v : Value) (L : List (Int × Int)) : Part := ⟨fun k => k = g ∨ v.ownBlock = some k, fun W => RfAt W g m v L⟩
section
variable {w W : World} {g : Nat} {m : Int} {v : Value} {L : List (Int × Int)} {l : List Part} {c : Nat}
theorem RfAt.lt (h : RfAt w g m v L) : g < w.heap.size := (Array.getElem?_eq_some_iff.1 h.row).1
theorem RfAt.frame {w' : World} (h : RfAt w g m v L) (hg : w'.heap[g]? = w.heap[g]?) (hv : ∀ k, v.ownBlock = some k → w'.heap[k]? = w.heap[k]?) : RfAt w' g m v L := by
  refine ⟨hg.trans h.row, h.own.1, ?_⟩
  rcases h.own.2 with q | ⟨g', cap, cur, rfl, hB, hh, r⟩
  · exact .inl q
  · exact .inr ⟨g', cap, cur, rfl, hB, (hv g' rfl).trans hh, r⟩
theorem RfAt.later {w' : World} (h : RfAt w g m v L) (hb : Below w.heap.size w w') : RfAt w' g m v L := h.frame (hb.block g h.lt) fun k hk => hb.block k (h.own.lt k hk).2
theorem rfP_good (g : Nat) (m : Int) (v : Value) (L : List (Int × Int)) : (rfP g m v L).Good := fun _ _ hs _ h => RfAt.frame hs (h g (.inl rfl)) fun k hk => h k (.inr hk)
theorem RfAt.cells (h : RfAt w g m v L) : w.cell? ⟨g, 0, none⟩ = some (.int .i64 m) ∧ w.cell? ⟨g, 1, none⟩ = some v := ⟨by rw [cell_of_row w _ _ _ _ _ h.row]; rfl, by rw [cell_of_row w _ _ _ _ _ h.row]; rfl⟩
/-- The list as the walk reads it. -/
theorem RfAt.list (h : RfAt w g m v L) : ∃ p cap, v = .slice p L.length cap ∧ ∀ i x, L[i]? = some x → ∃ b, p = some ⟨b, 0, none⟩ ∧ w.cell? ⟨b, i * 2, none⟩ = some (.int .i64 x.1) ∧ w.cell? ⟨b, i * 2 + 1, none⟩ = some (.int .i64 x.2) := by
  rcases own_form h.own with ⟨rfl, h0⟩ | ⟨b, c, rfl, hlt⟩
  · refine ⟨none, 0, by rw [h0], fun i x hx => ?_⟩
    have := (List.getElem?_eq_some_iff.1 hx).1
    omega
  · exact ⟨_, c, rfl, fun i x hx => ⟨b, rfl, own_get pc2_len h.own hx 0 _ rfl, own_get pc2_len h.own hx 1 _ rfl⟩⟩
theorem RfAt.ne (h : RfAt w g m v L) : v.ownBlock ≠ some g := own_ne h.own h.row (by decide)
theorem Sep.ref (h : Sep w W (rfP g m v L :: l)) : RfAt W g m v L := h.head
theorem rnew_ok (n : Int) (w : World) : Calls Try.prog 8 #[.int .i64 n] w fun e w' => ∃ g, e = .returned (.pointer (some ⟨g, 0, none⟩)) ∧ RfAt w' g (max n 0) (.slice none 0 0) [] ∧ Below w.heap.size w w' ∧ w.heap.size ≤ g := by
  by_cases hn : n < 0
  · have h1 : decide (n < 0) = true := decide_eq_true hn
    rw [show max n 0 = 0 by omega]
    go_enter Try.func8, Try.ntmps8
    go_wp2
    go_ret
    exact ⟨_, rfl, ⟨heap_alloc_new _ _, World.ownsRow_nil _ _ _ _⟩, below_new _ _, Nat.le_refl _⟩
  · have h1 : decide (n < 0) = false := decide_eq_false hn
    rw [show max n 0 = n by omega]
    go_enter Try.func8, Try.ntmps8
    go_wp2
    go_ret
    exact ⟨_, rfl, ⟨heap_alloc_new _ _, World.ownsRow_nil _ _ _ _⟩, below_new _ _, Nat.le_refl _⟩
theorem Sep.rnew (h : Sep w W l) (n : Int) : Calls Try.prog 8 #[.int .i64 n] W fun e W' => ∃ g, e = .returned (.pointer (some ⟨g, 0, none⟩)) ∧ Sep w W' (rfP g (max n 0) (.slice none 0 0) [] :: l) := by
  refine (rnew_ok n W).mono ?_
  rintro e W' ⟨g, he, hd, hb, h1⟩
  refine ⟨g, he, h.add hb (rfP_good _ _ _ _) hd ?_⟩
  rintro k (rfl | q)
  · exact ⟨h1, hd.lt⟩
  · cases q
theorem rlen_ok (h : RfAt w g m v L) : Calls Try.prog 23 #[.pointer (some ⟨g, 0, none⟩)] w fun e w' => e = .returned (.int .i64 (L.length : Nat)) ∧ w' = w := by
  obtain ⟨c0, c1⟩ := h.cells
  obtain ⟨p, cap, rfl, _⟩ := h.list
  generalize L.length = n at *
  clear h
  go_enter Try.func23, Try.ntmps23
  go_wp2
  go_ret
  exact ⟨rfl, rfl⟩
theorem rfull_ok (h : RfAt w g m v L) : Calls Try.prog 24 #[.pointer (some ⟨g, 0, none⟩)] w fun e w' => e = .returned (.bool (decide (m ≤ (L.length : Int)))) ∧ Below w.heap.size w w' := by
  obtain ⟨c0, c1⟩ := h.cells
  obtain ⟨p, cap, rfl, _⟩ := h.list
  obtain ⟨r, hr⟩ : ∃ r, decide (m ≤ (L.length : Int)) = r := ⟨_, rfl⟩
  rw [hr]
  generalize L.length = n at *
  clear h
  go_enter Try.func24, Try.ntmps24
  go_wp2
  go_quiet (fail)
  go_wp2
  go_ret
  exact ⟨rfl, belowN (Below.refl _ _) _⟩
set_option maxRecDepth 20000 in
theorem rholds_ok (h : RfAt w g m v L) (hr : Ris L) (hlen : L.length ≤ 1000000) (k : Int) : Calls Try.prog 22 #[.pointer (some ⟨g, 0, none⟩), .int .i64 k] w fun e w' => e = .returned (.int .i64 ((getH L k).getD 0)) ∧ w' = w := by
  obtain ⟨c0, c1⟩ := h.cells
  obtain ⟨p, cap, rfl, hl⟩ := h.list
  have HL := (show Hid _ from hl)
  have HR : Hid (Ris L) := hr
  obtain ⟨N, hN⟩ : ∃ N, L.length = N := ⟨_, rfl⟩
  have HN : Hid (L.length = N) := hN
  obtain ⟨z, hz⟩ : ∃ z, (getH L k).getD 0 = z := ⟨_, rfl⟩
  have HZ : Hid ((getH L k).getD 0 = z) := hz
  rw [hN] at c1 hlen
  rw [hz]
  clear h hl hr hN hz
  go_enter Try.func22, Try.ntmps22
  go_wp2
  go_loopw [5] (fun s5 wx => ∃ i : Nat, i ≤ N ∧ s5 = .int .i64 i ∧ Hid (∀ (j : Nat) (q : Int × Int), j < i → L[j]? = some q → q.1 ≠ k) ∧ wx = w) (fun s5 _ => N - (intOf s5).toNat)
  case atStart => exact ⟨0, by omega, rfl, fun j q hj => by omega, rfl⟩
  case round =>
    obtain ⟨i, hi, rfl, HF, rfl⟩ := hrel
    by_cases hi2 : i < N
    · have hln := HN.out
      have hx : L[i]? = some L[i] := List.getElem?_eq_getElem (by omega)
      obtain ⟨b, rfl, a0, a1⟩ := HL.out i _ hx
      have HX : Hid (L[i]? = some L[i]) := hx
      generalize L[i] = x at *
      clear hx
      by_cases hk : x.1 = k
      · have hk1 : (x.1 == k) = true := by simpa using hk
        have hzz : x.2 = z := by
          have h1 := get_at (k := x.1) (h := x.2) HR.out HX.out
          have h2 := HZ.out
          rw [hk] at h1
          rw [h1] at h2
          exact h2
        rw [hzz] at a1
        clear hk hzz
        go_wp2
        go_ret
        exact ⟨rfl, rfl⟩
      · have hk1 : (x.1 == k) = false := by simpa using hk
        have HF2 : Hid (∀ (j : Nat) (q : Int × Int), j < i + 1 → L[j]? = some q → q.1 ≠ k) := fun j q hj hq => by
          by_cases e : j = i
          · subst e
            rw [HX.out] at hq
            injection hq with hq
            rw [← hq]
            exact hk
          · exact HF.out j q (by omega) hq
        clear hk
        go_wp2
        go_roundw
        case rel => exact ⟨i + 1, by omega, by go_num, HF2, trivial⟩
        case measure => simp [intOf]; omega
    · obtain rfl : i = N := by omega
      have hz0 : z = 0 := by
        have h1 : getH L k = none := get_not fun j q hq => HF.out j q (by have := (List.getElem?_eq_some_iff.1 hq).1; rw [HN.out] at this; exact this) hq
        have h2 := HZ.out
        rw [h1] at h2
        exact h2.symm
      subst hz0
      go_wp2
      go_ret
      exact ⟨rfl, rfl⟩
end
end Go.Proofs.Ytpghalekcgnefaa
