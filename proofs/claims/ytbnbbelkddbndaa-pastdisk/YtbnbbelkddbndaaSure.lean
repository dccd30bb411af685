/- sure and mayBe: how many ops the last barrier ends; whether an image and its ops may be; no condition but that lists are not longer than lists can be. -/
import Derived.Test.YtbnbbelkddbndaaWhole
namespace Go.Proofs.Ytbnbbelkddbndaa
open Go.RowKit
/-- Ops that lie one behind the other from a place on. -/
def RecsAt (w : World) (b off : Nat) (l : List Rec) : Prop := ∀ k r, l[k]? = some r → w.cell? ⟨b, off + k * 1026, none⟩ = some (.int .u8 r.kind) ∧ w.cell? ⟨b, off + k * 1026 + 1, none⟩ = some (.int .i64 r.pos) ∧ BlkAt w b (off + k * 1026 + 2) r.dat
/-- A list of ops that came in or was made. -/
def OpsAt (w : World) (p : Option Addr) (l : List Rec) : Prop := 0 < l.length → ∃ b off, p = some ⟨b, off, none⟩ ∧ b < w.heap.size ∧ RecsAt w b off l
theorem RecsAt.later {w W : World} {b off B : Nat} {l : List Rec} (h : RecsAt w b off l) (hb : Below B w W) (hlt : b < B) : RecsAt W b off l := fun k r hr => by
  obtain ⟨h1, h2, h3⟩ := h k r hr
  exact ⟨(hb.cell (p := ⟨b, off + k * 1026, none⟩) hlt).trans h1, (hb.cell (p := ⟨b, off + k * 1026 + 1, none⟩) hlt).trans h2, fun j v hv => (hb.cell (p := ⟨b, off + k * 1026 + 2 + j, none⟩) hlt).trans (h3 j v hv)⟩
theorem OpsAt.later {w W : World} {p : Option Addr} {l : List Rec} (h : OpsAt w p l) (hb : Below w.heap.size w W) : OpsAt W p l := fun h0 => by
  obtain ⟨b, off, h1, h2, h3⟩ := h h0
  exact ⟨b, off, h1, Nat.lt_of_lt_of_le h2 hb.size, h3.later hb h2⟩
theorem OpsAt.take {w : World} {p : Option Addr} {l : List Rec} (h : OpsAt w p l) (k : Nat) : OpsAt w p (l.take k) := fun h0 => by
  obtain ⟨b, off, h1, h2, h3⟩ := h (by rw [List.length_take] at h0; omega)
  refine ⟨b, off, h1, h2, fun j r hr => h3 j r ?_⟩
  rw [List.getElem?_take] at hr
  split at hr
  · exact hr
  · cases hr
/-- How many ops the last barrier ends. -/
def sureN : List Rec → Nat
  | [] => 0
  | r :: t => if sureN t = 0 then (if r.kind = 2 then 1 else 0) else sureN t + 1
theorem sureN_zero : ∀ {l : List Rec}, (∀ (j : Nat) (r : Rec), l[j]? = some r → r.kind ≠ 2) → sureN l = 0
  | [], _ => rfl
  | r :: t, h => by
    unfold sureN
    rw [if_pos (sureN_zero fun j r hj => h (j + 1) r (by simpa using hj)), if_neg (h 0 r rfl)]
theorem sureN_at : ∀ {l : List Rec} {i : Nat} {r : Rec}, l[i]? = some r → r.kind = 2 → (∀ (j : Nat) (r : Rec), i < j → l[j]? = some r → r.kind ≠ 2) → sureN l = i + 1
  | [], i, r, h, _, _ => by simp at h
  | x :: t, 0, r, h, hr, hn => by
    have e : x = r := by simpa using h
    subst e
    unfold sureN
    rw [if_pos (sureN_zero fun j r hj => hn (j + 1) r (by omega) (by simpa using hj)), if_pos hr]
  | x :: t, i + 1, r, h, hr, hn => by
    have ih := sureN_at (l := t) (i := i) (by simpa using h) hr fun j r hj hg => hn (j + 1) r (by omega) (by simpa using hg)
    unfold sureN
    rw [if_neg (by omega), ih]
theorem sureN_le : ∀ l : List Rec, sureN l ≤ l.length
  | [] => Nat.le_refl _
  | r :: t => by
    have ih := sureN_le t
    unfold sureN
    rw [List.length_cons]
    split
    · split <;> omega
    · omega
theorem sureN_after : ∀ {l : List Rec} {j : Nat} {r : Rec}, sureN l ≤ j → l[j]? = some r → r.kind ≠ 2
  | [], _, _, _, h => by simp at h
  | x :: t, 0, r, hj, h => by
    have e : x = r := by simpa using h
    subst e
    unfold sureN at hj
    intro hx
    rw [if_pos hx] at hj
    split at hj <;> omega
  | x :: t, j + 1, r, hj, h => by
    refine sureN_after (l := t) (j := j) ?_ (by simpa using h)
    unfold sureN at hj
    split at hj
    · omega
    · omega
set_option maxRecDepth 20000 in
theorem sure_any (l : List Rec) (p : Option Addr) (cap : Nat) (w : World) (hl : l.length < 9223372036854775807) (h : OpsAt w p l) :
    Calls Try.prog 63 #[.slice p l.length cap] w fun e w' => e = .returned (.int .i64 (sureN l)) ∧ w' = w := by
  have HI : Hid (OpsAt w p l) := h
  clear h
  have hR0 : Hid (∀ (j : Nat) (r : Rec), (l.length : Int) - 1 < (j : Int) → l[j]? = some r → r.kind ≠ 2) := fun j r hj hr => by
    have := (List.getElem?_eq_some_iff.1 hr).1
    omega
  go_enter Try.func63, Try.ntmps63
  go_wp2
  go_loopw [3] (fun s3 wx => ∃ i : Int, -1 ≤ i ∧ i < l.length ∧ s3 = .int .i64 i ∧ wx = w ∧ Hid (∀ (j : Nat) (r : Rec), i < (j : Int) → l[j]? = some r → r.kind ≠ 2)) (fun s3 _ => (intOf s3 + 1).toNat)
  case atStart => exact ⟨(l.length : Int) - 1, by omega, by omega, by go_num, rfl, hR0.out⟩
  case round =>
    obtain ⟨i, h1, h2, rfl, rfl, HR⟩ := hrel
    clear hR0
    by_cases hi : 0 ≤ i
    · obtain ⟨k, rfl⟩ := Int.eq_ofNat_of_zero_le hi
      have hc : l[k]? = some l[k] := List.getElem?_eq_getElem (by omega)
      obtain ⟨b, off, rfl, hlt, hC⟩ := HI.out (by omega)
      generalize l[k] = r at hc
      obtain ⟨q1, _, _⟩ := hC k r hc
      by_cases hr : r.kind = 2
      · have e := sureN_at hc hr fun j r hj => HR.out j r (by omega)
        rw [hr] at q1
        have HE : Hid (sureN l = k + 1) := e
        clear e HR hC
        go_wp2
        go_ret
        refine ⟨?_, rfl⟩
        rw [HE.out]
        exact congrArg Ending.returned (by go_num)
      · have hR2 : Hid (∀ (j : Nat) (r : Rec), (k : Int) - 1 < (j : Int) → l[j]? = some r → r.kind ≠ 2) := fun j r' hj hr' => by
          by_cases e : j = k
          · subst e
            rw [hc] at hr'
            injection hr' with hr'
            subst hr'
            exact hr
          · exact HR.out j r' (by omega) hr'
        have hd : decide (r.kind = 2) = false := decide_eq_false hr
        clear HR hC
        go_wp2
        exact ⟨⟨(k : Int) - 1, by omega, by omega, by go_num, by trivial, hR2.out⟩, by first | (simp [intOf]; omega) | simp [intOf]⟩
    · obtain rfl : i = -1 := by omega
      have e : Hid (sureN l = 0) := sureN_zero fun j r hr => HR.out j r (by omega) hr
      clear HR
      go_wp2
      go_ret
      exact ⟨by rw [e.out]; rfl, rfl⟩
end Go.Proofs.Ytbnbbelkddbndaa
