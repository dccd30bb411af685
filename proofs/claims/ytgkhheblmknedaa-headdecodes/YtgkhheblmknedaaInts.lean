/- Lists of numbers in memory, held against each other; no condition. -/
import Derived.Test.YtgkhheblmknedaaHStands
import Derived.Maps.AppendAt
import Derived.Maps.OwnOps
import Derived.Maps.OwnSet
import Derived.Deep.LoopGhost
namespace Go.Proofs.Ytgkhheblmknedaa
open Go.RowKit Go.Maps
/-- Numbers that lie in memory. -/
def IntsAt (w : World) (p : Option Addr) (zs : List Int) : Prop := 0 < zs.length → ∃ b off, p = some ⟨b, off, none⟩ ∧ b < w.heap.size ∧ ∀ j x, zs[j]? = some x → w.cell? ⟨b, off + j, none⟩ = some (.int .i64 x)
theorem ints_of_row {w : World} {base : Nat} {v : Value} {zs : List Int} (h : w.ownsRow base 3 1 v zs.length (zs.map (Value.int .i64))) : ∃ p c, v = .slice p zs.length c ∧ IntsAt w p zs ∧ zs.length ≤ c ∧ ∀ b off, p = some ⟨b, off, none⟩ → base ≤ b := by
  rcases h.2 with ⟨h1, h2⟩ | ⟨g, cap, cur, h1, hg, hh, hc, _⟩
  · exact ⟨none, 0, by rw [h1, h2], fun q => by omega, by omega, fun _ _ q => by cases q⟩
  · refine ⟨_, cap, h1, fun _ => ⟨g, 0, rfl, (h.lt g (by rw [h1]; rfl)).2, fun j x hx => ?_⟩, hc, fun b off q => by injection q with q; injection q with q1; omega⟩
    have q := h.cells (g := g) (by rw [h1]; rfl) j (.int .i64 x) (by rw [List.getElem?_map, hx]; rfl)
    rw [Go.WideShapes.add_plain] at q
    exact q
theorem IntsAt.later {w W : World} {p : Option Addr} {l : List Int} (h : IntsAt w p l) (hb : Below w.heap.size w W) : IntsAt W p l := fun h0 => by
  obtain ⟨b, off, h1, h2, h3⟩ := h h0
  exact ⟨b, off, h1, Nat.lt_of_lt_of_le h2 hb.size, fun j x hx => (hb.cell (p := ⟨b, off + j, none⟩) h2).trans (h3 j x hx)⟩
theorem belowN {B : Nat} {w W : World} (h : Below B w W) (q : Nat) : Below B w (W.drewN q) := h.trans ⟨rfl, rfl, rfl, Nat.le_refl _, fun _ _ => rfl⟩
set_option maxRecDepth 20000 in
set_option maxHeartbeats 1000000 in
theorem sameInts_any (s t : List Int) (p q : Option Addr) (cp cq : Nat) (w : World) (hls : s.length < 9223372036854775807) (hs : IntsAt w p s) (ht : IntsAt w q t) :
    Calls Try.prog 17 #[.slice p s.length cp, .slice q t.length cq] w fun e w' => e = .returned (.bool (decide (s = t))) ∧ Below w.heap.size w w' := by
  by_cases hl : s.length = t.length
  · have HS : Hid (IntsAt w p s) := hs
    have HT : Hid (IntsAt w q t) := ht
    have HR : Hid (decide (s = t) = decide (s.drop 0 = t.drop 0)) := rfl
    generalize decide (s = t) = res at *
    obtain ⟨n, hn⟩ : ∃ n, s.length = n := ⟨_, rfl⟩
    have hn2 : t.length = n := by omega
    rw [hn, hn2]
    rw [hn] at hls
    have HL : Hid (s.length = n ∧ t.length = n) := ⟨hn, hn2⟩
    clear hs ht hl hn hn2
    go_enter Try.func17, Try.ntmps17
    go_wp2
    go_loopw [5] (fun s5 wx => ∃ k : Nat, k ≤ n ∧ s5 = .int .i64 k ∧ Hid (Below w.heap.size w wx) ∧ Hid (res = decide (s.drop k = t.drop k))) (fun s5 _ => n - (intOf s5).toNat)
    case atStart => exact ⟨0, by omega, rfl, Below.refl _ _, HR.out⟩
    case round =>
      obtain ⟨k, hk, rfl, HB, HR2⟩ := hrel
      clear HR
      by_cases hk2 : (k : Int) < n
      · obtain ⟨hn, hn2⟩ := HL.out
        have hc : s[k]? = some s[k] := List.getElem?_eq_getElem (by omega)
        have hd : t[k]? = some t[k] := List.getElem?_eq_getElem (by omega)
        have hcd : s.drop k = s[k] :: s.drop (k + 1) := List.drop_eq_getElem_cons (by omega)
        have hdd : t.drop k = t[k] :: t.drop (k + 1) := List.drop_eq_getElem_cons (by omega)
        obtain ⟨b1, o1, rfl, l1, C1⟩ := HS.out (by omega)
        obtain ⟨b2, o2, rfl, l2, C2⟩ := HT.out (by omega)
        generalize s[k] = c at hc hcd
        generalize t[k] = d at hd hdd
        have q1 : wr.cell? ⟨b1, o1 + k, none⟩ = some (.int .i64 c) := (HB.out.cell (p := ⟨b1, o1 + k, none⟩) l1).trans (C1 k c hc)
        have q2 : wr.cell? ⟨b2, o2 + k, none⟩ = some (.int .i64 d) := (HB.out.cell (p := ⟨b2, o2 + k, none⟩) l2).trans (C2 k d hd)
        have hR := HR2.out
        rw [hcd, hdd] at hR
        clear HR2 C1 C2 hcd hdd hc hd hn hn2
        by_cases hcdd : c = d
        · subst hcdd
          have HR3 : Hid (res = decide (s.drop (k + 1) = t.drop (k + 1))) := by
            have e : res = decide (s.drop (k + 1) = t.drop (k + 1)) := by rw [hR]; simp
            exact e
          have g0 : decide (c = c) = true := by simp
          clear hR
          go_wp2
          go_quiet (fail)
          go_wp2
          exact ⟨⟨k + 1, by omega, by go_num, belowN HB.out _, HR3.out⟩, by simp [intOf]; omega⟩
        · have hr0 : res = false := by rw [hR]; simp [hcdd]
          have g0 : decide (c = d) = false := decide_eq_false hcdd
          clear hR
          subst hr0
          go_wp2
          go_quiet (fail)
          go_wp2
          go_ret
          exact ⟨rfl, belowN HB.out _⟩
      · obtain rfl : k = n := by omega
        have hr0 : res = true := by
          obtain ⟨hn, hn2⟩ := HL.out
          rw [HR2.out, List.drop_of_length_le (by omega), List.drop_of_length_le (by omega)]
          rfl
        subst hr0
        go_wp2
        go_ret
        exact ⟨rfl, HB.out⟩
  · have e : decide (s = t) = false := decide_eq_false fun q => hl (by rw [q])
    rw [e]
    have hlI : ¬ ((s.length : Int) = t.length) := by omega
    clear e hs ht
    go_enter Try.func17, Try.ntmps17
    go_wp2
    go_ret
    exact ⟨rfl, Below.refl _ _⟩
end Go.Proofs.Ytgkhheblmknedaa
