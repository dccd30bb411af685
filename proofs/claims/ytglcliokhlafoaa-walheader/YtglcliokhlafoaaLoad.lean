/- Load: a disk of every image that may be, none of any other; no condition. -/
import Derived.Test.YtglcliokhlafoaaMay
namespace Go.Proofs.Ytglcliokhlafoaa
open Go.RowKit
/-- The disk of an image. -/
def loadV (n : Int) (l : List Cel) : St := holdAll (newV n) l
theorem rises_bounds {n : Int} : ∀ (l : List Cel) (a : Int), -1 ≤ a → risesB n a l = true → ∀ c ∈ l, 0 ≤ c.1 ∧ c.1 < n ∧ blankB c.2 = false
  | [], _, _, _, c, hc => by simp at hc
  | x :: t, a, ha, h, c, hc => by
    unfold risesB at h
    simp at h
    obtain ⟨⟨⟨h1, h2⟩, h3⟩, h4⟩ := h
    rcases List.mem_cons.1 hc with rfl | hc
    · exact ⟨by omega, by omega, h3⟩
    · exact rises_bounds t x.1 (by omega) h4 c hc
theorem may_bounds {n : Int} {l : List Cel} (h : mayB n l = true) : bndB n = true ∧ ∀ c ∈ l, 0 ≤ c.1 ∧ c.1 < n ∧ blankB c.2 = false := by
  unfold mayB at h
  simp at h
  exact ⟨h.1, rises_bounds l (-1) (by omega) h.2⟩
theorem ImgAt.later {w W : World} {p : Option Addr} {l : List Cel} (h : ImgAt w p l) (hb : Below w.heap.size w W) : ImgAt W p l := fun h0 => by
  obtain ⟨b, off, h1, h2, h3⟩ := h h0
  exact ⟨b, off, h1, Nat.lt_of_lt_of_le h2 hb.size, h3.later hb h2⟩
set_option maxRecDepth 20000 in
theorem load_bad (n : Int) (l : List Cel) (p : Option Addr) (cap : Nat) (w : World) (hl : l.length < 9223372036854775807) (h : ImgAt w p l) (hm : mayB n l = false) :
    Calls Try.prog 7 #[.agg #[.int .i64 n, .slice p l.length cap]] w fun e w' => e = .returned (.tuple #[.pointer none, .int .i64 4]) ∧ Below w.heap.size w w' := by
  have hB := below_new w (.cells #[.int .i64 n, .slice p l.length cap] 24)
  have hM := may_any n l p cap _ hl (h.later hB)
  rw [hm] at hM
  go_enter Try.func7, Try.ntmps7
  go_wp2_with (go_at_call 18; refine hM.mono ?_; rintro e W1 ⟨rfl, hb1⟩)
  go_ret2
  exact ⟨rfl, below_next hB hb1⟩
set_option maxRecDepth 20000 in
set_option maxHeartbeats 2000000 in
theorem load_ok (n : Int) (l : List Cel) (p : Option Addr) (cap : Nat) (w : World) (hl : l.length < 9223372036854775807) (h : ImgAt w p l) (hcan : ∀ c ∈ l, Can c.2) (hm : mayB n l = true) :
    Calls Try.prog 7 #[.agg #[.int .i64 n, .slice p l.length cap]] w fun e w' => ∃ L : Loc, e = .returned (.tuple #[.pointer (some ⟨L.d, 0, none⟩), .int .i64 0]) ∧ DiskAt w' L (loadV n l) ∧ L.from w.heap.size ∧ Below w.heap.size w w' := by
  have hB := below_new w (.cells #[.int .i64 n, .slice p l.length cap] 24)
  have hG := heap_alloc_new w (.cells #[.int .i64 n, .slice p l.length cap] 24)
  have hM := may_any n l p cap _ hl (h.later hB)
  rw [hm] at hM
  have HI : Hid (ImgAt w p l) := h
  have HC : Hid (∀ c ∈ l, Can c.2) := hcan
  obtain ⟨hbn, hbs⟩ := may_bounds hm
  have HBs : Hid (∀ c ∈ l, 0 ≤ c.1 ∧ c.1 < n ∧ blankB c.2 = false) := hbs
  clear h hcan hm hbs
  go_enter Try.func7, Try.ntmps7
  go_wp2_with (go_at_call 18; fail)
  refine hM.mono ?_
  rintro e W1 ⟨rfl, hb1⟩
  have hG1 := heap_kept hG hb1
  have hB1 := below_next hB hb1
  have i0 : W1.cell? ⟨w.heap.size, 0, none⟩ = some (.int .i64 n) := Joins.cell_of_block hG1 0
  clear hM hG hB hb1
  go_wp2_with (go_at_call 19; fail)
  refine (new_ok hbn W1).mono ?_
  rintro e W2 ⟨L, rfl, hD2, hL2, hb2⟩
  have hG2 := heap_kept hG1 hb2
  have HB2 : Hid (Below w.heap.size w W2) := below_next hB1 hb2
  have i1 : W2.cell? ⟨w.heap.size, 1, none⟩ = some (.slice p l.length cap) := Joins.cell_of_block hG2 1
  have HD2 : Hid (DiskAt W2 L (newV n)) := hD2
  have HL2 : Hid (L.from w.heap.size ∧ ¬ L.has w.heap.size) := by
    have hs := hB1.size
    have hlt : w.heap.size < W1.heap.size := (Array.getElem?_eq_some_iff.1 hG1).1
    exact ⟨fun k hk => by have := hL2 k hk; omega, fun q => by have := hL2 _ q; omega⟩
  have HG2 : Hid (W2.heap[w.heap.size]? = some (.cells #[.int .i64 n, .slice p l.length cap] 24)) := hG2
  clear hD2 hL2 hb2 hB1 hG1 i0 hG2
  go_wp2
  go_loopw [19] (fun s19 wx => ∃ k : Nat, k ≤ l.length ∧ s19 = .int .i64 k ∧ Hid (DiskAt wx L (holdAll (newV n) (l.take k))) ∧ Hid (Below w.heap.size w wx) ∧ Hid (wx.heap[w.heap.size]? = some (.cells #[.int .i64 n, .slice p l.length cap] 24))) (fun s19 _ => l.length - (intOf s19).toNat)
  case atStart => exact ⟨0, by omega, rfl, HD2.out, HB2.out, HG2.out⟩
  case round =>
    obtain ⟨k, hk, rfl, HD, HB, HG⟩ := hrel
    clear HD2 HB2 HG2 i1
    by_cases hk2 : (k : Int) < l.length
    · have hc : l[k]? = some l[k] := List.getElem?_eq_getElem (by omega)
      obtain ⟨b, off, rfl, hlt, hC⟩ := HI.out (by omega)
      generalize l[k] = c at hc
      have hmem := List.mem_of_getElem? hc
      obtain ⟨q1, _⟩ := (hC.later HB.out hlt) k c hc
      have hbd : Below w.heap.size w wr.drew := HB.out.drew
      obtain ⟨_, q2⟩ := (hC.later hbd hlt) k c hc
      have HDd : DiskAt wr.drew L (holdAll (newV n) (l.take k)) := HD.out.fr (Fr.drew (T := fun _ => False) wr) fun _ _ q => q
      obtain ⟨y1, y2, _⟩ := HBs.out c hmem
      have hH := hold_of HDd (k := c.1) (by rw [holdAll_n]; exact ⟨y1, y2⟩) (HC.out c hmem) q2
      rw [← holdAll_snoc, ← take_snoc hc] at hH
      have HH : Hid (Calls Try.prog 20 #[.pointer (some ⟨L.d, 0, none⟩), .int .i64 c.1, .pointer (some ⟨b, off + k * 1025 + 1, none⟩)] wr.drew fun e w' => e = .returned (.tuple #[]) ∧ DiskAt w' L (holdAll (newV n) (l.take (k + 1))) ∧ Below w.heap.size w w' ∧ w'.heap[w.heap.size]? = some (.cells #[.int .i64 n, .slice (some ⟨b, off, none⟩) l.length cap] 24)) :=
        hH.mono fun e w' ⟨h1, h2, h3⟩ => ⟨h1, h2, hbd.trans ((h3.mono fun i _ q => (.inr (.inl q) : L.has i)).below HL2.out.1 hbd.size), (h3.block _ (Array.getElem?_eq_some_iff.1 HG.out).1 fun q => HL2.out.2 (.inr (.inl q))).trans HG.out⟩
      have i1 : wr.cell? ⟨w.heap.size, 1, none⟩ = some (.slice (some ⟨b, off, none⟩) l.length cap) := Joins.cell_of_block HG.out 1
      clear hH q2 HDd hbd hC hmem hc HD HB HG
      go_wp2
      go_still_tail 12, (by kernel_rfl)
      change wpList _ _ _ _ _ (World.drew _)
      go_wp2_with (go_at_call 20; fail)
      refine HH.out.mono ?_
      rintro e W3 ⟨rfl, hD3, hB3, hG3⟩
      have HD3 : Hid (DiskAt W3 L (holdAll (newV n) (l.take (k + 1)))) := hD3
      have HB3 : Hid (Below w.heap.size w W3) := hB3
      have HG3 : Hid (W3.heap[w.heap.size]? = some (.cells #[.int .i64 n, .slice (some ⟨b, off, none⟩) l.length cap] 24)) := hG3
      clear hD3 hB3 hG3 HH i1
      go_wp2
      exact ⟨⟨k + 1, by omega, by go_num, HD3.out, HB3.out, HG3.out⟩, by simp [intOf]; omega⟩
    · obtain rfl : k = l.length := by omega
      have hD := HD.out
      rw [List.take_length] at hD
      have HD3 : Hid (DiskAt wr L (loadV n l)) := hD
      clear hD HD HG
      go_wp2
      go_ret2
      exact ⟨L, rfl, HD3.out, HL2.out.1, HB.out⟩
end Go.Proofs.Ytglcliokhlafoaa
