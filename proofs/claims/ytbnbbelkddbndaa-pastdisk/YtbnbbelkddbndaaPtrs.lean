/- Maps from numbers to where blocks lie; byNumber: the blocks of an image that may be; no condition. -/
import Derived.Test.YtbnbbelkddbndaaMayOps
namespace Go.Proofs.Ytbnbbelkddbndaa
open Go.RowKit Go.Maps
/-- Blocks by their numbers: none is blank. -/
abbrev Con := Int → Option (Nat → Int)
def holdC (c : Con) (k : Int) (f : Nat → Int) : Con := fun j => if j = k then (if blankB f then none else some f) else c j
def holdCs (c : Con) (l : List Cel) : Con := l.foldl (fun c x => holdC c x.1 x.2) c
theorem holdCs_snoc (c : Con) (l : List Cel) (x : Cel) : holdCs c (l ++ [x]) = holdC (holdCs c l) x.1 x.2 := by simp [holdCs]
theorem holdCs_append (c : Con) (l m : List Cel) : holdCs c (l ++ m) = holdCs (holdCs c l) m := by simp [holdCs]
def noC : Con := fun _ => none
/-- The map at b says where the blocks of c lie: below B. -/
def PtrsAt (B : Nat) (w : World) (b : Nat) (c : Con) : Prop :=
  ∃ m, MapIs Try.prog 3 w b m ∧ (∀ k, c k = none → m k = none) ∧ ∀ k f, c k = some f → ∃ g off, m k = some (.pointer (some ⟨g, off, none⟩)) ∧ g < B ∧ BlkAt w g off f
variable {B : Nat} {w w' : World} {b : Nat} {c : Con}
theorem PtrsAt.lt (h : PtrsAt B w b c) : b < w.heap.size := by obtain ⟨m, h, _⟩ := h; exact h.lt
theorem PtrsAt.isMap (h : PtrsAt B w b c) : ∃ es clock, w.heap[b]? = some (.map es clock) := by obtain ⟨m, h, _⟩ := h; exact h.isMap
theorem PtrsAt.ne (h : PtrsAt B w b c) {k : Nat} {cs : Array Value} {t : TypeId} (hk : w.heap[k]? = some (.cells cs t)) : k ≠ b := fun e => by
  obtain ⟨es, ck, hm⟩ := h.isMap
  rw [e, hm] at hk
  cases hk
theorem PtrsAt.kept (h : PtrsAt B w b c) (hb : w'.heap[b]? = w.heap[b]?) (hB : ∀ k, k < B → w'.heap[k]? = w.heap[k]?) : PtrsAt B w' b c := by
  obtain ⟨m, h1, h2, h3⟩ := h
  refine ⟨m, h1.kept hb, h2, fun k f hk => ?_⟩
  obtain ⟨g, off, q1, q2, q3⟩ := h3 k f hk
  exact ⟨g, off, q1, q2, q3.kept (hB g q2)⟩
theorem PtrsAt.later (h : PtrsAt B w b c) (hB : B ≤ w.heap.size) (hb : Below w.heap.size w w') : PtrsAt B w' b c :=
  h.kept (hb.block b h.lt) fun k hk => hb.block k (by omega)
theorem PtrsAt.mono {B' : Nat} (h : PtrsAt B w b c) (hB : B ≤ B') : PtrsAt B' w b c := by
  obtain ⟨m, h1, h2, h3⟩ := h
  refine ⟨m, h1, h2, fun k f hk => ?_⟩
  obtain ⟨g, off, q1, q2, q3⟩ := h3 k f hk
  exact ⟨g, off, q1, by omega, q3⟩
theorem PtrsAt.made (w : World) (B : Nat) : PtrsAt B (w.alloc (.map #[] 0)) w.heap.size noC :=
  ⟨_, MapIs.made w, fun _ _ => rfl, fun k f h => by simp [noC] at h⟩
/-- A block that is not blank is put. -/
theorem putP {m : Int → Option Value} (h2 : ∀ k, c k = none → m k = none) (h3 : ∀ k f, c k = some f → ∃ g off, m k = some (.pointer (some ⟨g, off, none⟩)) ∧ g < B ∧ BlkAt w g off f)
    {x : Int} {f : Nat → Int} {g off : Nat} (hg : g < B) (hf : BlkAt w g off f) (hbl : blankB f = false) (hm : MapIs Try.prog 3 w' b (fun y => if y = x then some (.pointer (some ⟨g, off, none⟩)) else m y))
    (hB : ∀ k, k < B → w'.heap[k]? = w.heap[k]?) : PtrsAt B w' b (holdC c x f) := by
  refine ⟨_, hm, fun k hk => ?_, fun k f' hk => ?_⟩
  · unfold holdC at hk
    by_cases e : k = x
    · rw [if_pos e, hbl] at hk; cases hk
    · rw [if_neg e] at hk ⊢; exact h2 k hk
  · unfold holdC at hk
    by_cases e : k = x
    · rw [if_pos e, hbl] at hk
      have e2 : f = f' := by simpa using hk
      subst e2
      rw [if_pos e]
      exact ⟨g, off, rfl, hg, hf.kept (hB g hg)⟩
    · rw [if_neg e] at hk ⊢
      obtain ⟨g', off', q1, q2, q3⟩ := h3 k f' hk
      exact ⟨g', off', q1, q2, q3.kept (hB g' q2)⟩
/-- A blank one is struck. -/
theorem delP {m : Int → Option Value} (h2 : ∀ k, c k = none → m k = none) (h3 : ∀ k f, c k = some f → ∃ g off, m k = some (.pointer (some ⟨g, off, none⟩)) ∧ g < B ∧ BlkAt w g off f)
    {x : Int} {f : Nat → Int} (hbl : blankB f = true) (hm : MapIs Try.prog 3 w' b (fun y => if y = x then none else m y))
    (hB : ∀ k, k < B → w'.heap[k]? = w.heap[k]?) : PtrsAt B w' b (holdC c x f) := by
  refine ⟨_, hm, fun k hk => ?_, fun k f' hk => ?_⟩
  · unfold holdC at hk
    by_cases e : k = x
    · rw [if_pos e]
    · rw [if_neg e] at hk ⊢; exact h2 k hk
  · unfold holdC at hk
    by_cases e : k = x
    · rw [if_pos e, hbl] at hk; cases hk
    · rw [if_neg e] at hk ⊢
      obtain ⟨g', off', q1, q2, q3⟩ := h3 k f' hk
      exact ⟨g', off', q1, q2, q3.kept (hB g' q2)⟩
theorem makeHint (n : Nat) (w : World) : (Instr.makeMap 84 (some (.int .i64 (n : Int)))).run Try.prog w = .ok (.map (some w.heap.size)) (w.alloc (.map #[] 0)) := by
  simp [Instr.makeMap, run_underlying Try.underlying84, go_sem]
theorem inTop_bnd {n x : Int} (h : bndB n = true) (hx : 0 ≤ x ∧ x < n) : inTop x := by
  have : 1 ≤ n ∧ n ≤ 1048576 := by simpa [bndB] using h
  unfold inTop
  omega
set_option maxRecDepth 20000 in
set_option maxHeartbeats 1000000 in
theorem byNumber_of (n : Int) (l : List Cel) (p : Option Addr) (cap : Nat) (w : World) (hl : l.length < 9223372036854775807) (h : ImgAt w p l) (hm : mayB n l = true) :
    Calls Try.prog 54 #[.agg #[.int .i64 n, .slice p l.length cap]] w fun e w' => ∃ b, e = .returned (.map (some b)) ∧ PtrsAt w.heap.size w' b (holdCs noC l) ∧ w.heap.size ≤ b ∧ Below w.heap.size w w' := by
  have hB := below_new w (.cells #[.int .i64 n, .slice p l.length cap] 24)
  have hG := heap_alloc_new w (.cells #[.int .i64 n, .slice p l.length cap] 24)
  have hmm := makeHint
  obtain ⟨hbn, hbs⟩ := may_bounds hm
  have HI : Hid (ImgAt w p l) := h
  have HBs : Hid (∀ c ∈ l, 0 ≤ c.1 ∧ c.1 < n ∧ blankB c.2 = false) := hbs
  have HP : Hid (PtrsAt w.heap.size ((w.alloc (.cells #[.int .i64 n, .slice p l.length cap] 24)).alloc (.map #[] 0)) (w.heap.size + 1) (holdCs noC (l.take 0))) := by
    have := PtrsAt.made (w.alloc (.cells #[.int .i64 n, .slice p l.length cap] 24)) w.heap.size
    rw [show (w.alloc (.cells #[.int .i64 n, .slice p l.length cap] 24)).heap.size = w.heap.size + 1 by simp] at this
    exact this
  have HB0 : Hid (Below w.heap.size w ((w.alloc (.cells #[.int .i64 n, .slice p l.length cap] 24)).alloc (.map #[] 0))) := (((Below.refl _ _).alloc (Nat.le_refl _) _).alloc (by simp) _)
  have HG0 : Hid (((w.alloc (.cells #[.int .i64 n, .slice p l.length cap] 24)).alloc (.map #[] 0)).heap[w.heap.size]? = some (.cells #[.int .i64 n, .slice p l.length cap] 24)) := heap_kept hG (below_new _ _)
  clear h hm hbs hB hG
  go_enter Try.func54, Try.ntmps54
  go_wp2
  generalize hBB : w.heap.size = B at *
  go_loopw [12] (fun s12 wx => ∃ k : Nat, k ≤ l.length ∧ s12 = .int .i64 k ∧ Hid (PtrsAt B wx (B + 1) (holdCs noC (l.take k))) ∧ Hid (Below B w wx) ∧ Hid (wx.heap[B]? = some (.cells #[.int .i64 n, .slice p l.length cap] 24))) (fun s12 _ => l.length - (intOf s12).toNat)
  case atStart => exact ⟨0, by omega, rfl, HP.out, HB0.out, HG0.out⟩
  case round =>
    obtain ⟨k, hk, rfl, HP1, HB1, HG1⟩ := hrel
    clear HP HB0 HG0 hmm
    by_cases hk2 : (k : Int) < l.length
    · have hc : l[k]? = some l[k] := List.getElem?_eq_getElem (by omega)
      obtain ⟨b, off, rfl, hlt, hC⟩ := HI.out (by omega)
      have ht := take_snoc hc
      generalize l[k] = c at hc ht
      have hmem := List.mem_of_getElem? hc
      obtain ⟨y1, y2, y3⟩ := HBs.out c hmem
      have hin := inTop_bnd hbn ⟨y1, y2⟩
      rw [hBB] at hlt
      have hCr : CelsAt wr b off l := fun k c hc => by
        obtain ⟨h1, h2⟩ := hC k c hc
        exact ⟨(HB1.out.cell (p := ⟨b, off + k * 1025, none⟩) hlt).trans h1, fun j v hv => (HB1.out.cell (p := ⟨b, off + k * 1025 + 1 + j, none⟩) hlt).trans (h2 j v hv)⟩
      obtain ⟨q1, q2⟩ := hCr k c hc
      have i1 : wr.cell? ⟨B, 1, none⟩ = some (.slice (some ⟨b, off, none⟩) l.length cap) := Joins.cell_of_block HG1.out 1
      obtain ⟨m, hM, h2, h3⟩ := HP1.out
      have HN : Hid (∀ w', MapIs Try.prog 3 w' (B + 1) (fun y => if y = c.1 then some (.pointer (some ⟨b, off + k * 1025 + 1, none⟩)) else m y) → wr.drew.grownBy w' (some (B + 1)) →
          PtrsAt B w' (B + 1) (holdCs noC (l.take (k + 1))) ∧ Below B w w' ∧ w'.heap[B]? = some (.cells #[.int .i64 n, .slice (some ⟨b, off, none⟩) l.length cap] 24)) := fun w' hm' hg' => by
        have hbk : ∀ i, i < B + 1 → w'.heap[i]? = wr.heap[i]? := fun i hi => hg'.block i (by have := hM.lt; show i < wr.heap.size; omega) (fun q => by injection q with q; omega)
        refine ⟨?_, HB1.out.drew.grown hg' (by have := HB1.out.size; show B ≤ wr.heap.size; have := hM.lt; omega) (fun j hj => by injection hj with hj; omega), (hbk B (by omega)).trans HG1.out⟩
        rw [ht, holdCs_snoc]
        exact putP h2 h3 (by omega) q2 y3 hm' fun i hi => hbk i (by omega)
      clear HP1 HB1 HG1 hC hCr q2 h2 h3 ht hc hmem
      go_wp2
      go_still_tail 12, (by kernel_rfl)
      change wpList _ _ _ _ _ (World.drew _)
      refine wpList_putM rfl _ _ _ 84 rfl 89 Try.underlying3 keyed3 Try.underlying84 (B + 1) m rfl (hM.kept (w' := wr.drew) rfl) c.1 hin rfl _ rfl ?_
      intro w' hm' hg'
      obtain ⟨n1, n2, n3⟩ := HN.out w' hm' hg'
      have N1 : Hid (PtrsAt B w' (B + 1) (holdCs noC (l.take (k + 1)))) := n1
      have N2 : Hid (Below B w w') := n2
      have N3 : Hid (w'.heap[B]? = some (.cells #[.int .i64 n, .slice (some ⟨b, off, none⟩) l.length cap] 24)) := n3
      clear hm' hg' HN hM n1 n2 n3 i1 q1
      go_wp2
      exact ⟨⟨k + 1, by omega, by go_num, N1.out, N2.out, N3.out⟩, by simp [intOf]; omega⟩
    · obtain rfl : k = l.length := by omega
      have hP := HP1.out
      rw [List.take_length] at hP
      have HP2 : Hid (PtrsAt B wr (B + 1) (holdCs noC l)) := hP
      clear hP HP1 HG1
      go_wp2
      go_ret
      exact ⟨B + 1, rfl, HP2.out, by omega, HB1.out⟩
end Go.Proofs.Ytbnbbelkddbndaa
