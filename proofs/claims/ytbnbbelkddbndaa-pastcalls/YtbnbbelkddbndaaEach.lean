import Derived.Test.YtbnbbelkddbndaaWhole
import Derived.Deep.QuietTactic
import Derived.BigQuiet
/- sure and mayBe: how many ops the last barrier ends; whether an image and its ops may be; no condition but that lists are not longer than lists can be. -/
namespace Go.Proofs.Ytbnbbelkddbndaa
open Go.RowKit
/-- Ops that lie one behind the other from a place on. -/
def RecsAt (w : World) (b off : Nat) (l : List Rec) : Prop := ∀ k r, l[k]? = some r → w.cell? ⟨b, off + k * 1026, none⟩ = some (.int .u8 r.kind) ∧ w.cell? ⟨b, off + k * 1026 + 1, none⟩ = some (.int .i64 r.pos) ∧ BlkAt w b (off + k * 1026 + 2) r.dat
/-- A list of ops that came in or was made. -/
def OpsAt (w : World) (p : Option Addr) (l : List Rec) : Prop := 0 < l.length → ∃ b off, p = some ⟨b, off, none⟩ ∧ b < w.heap.size ∧ RecsAt w b off l
theorem RecsAt.later {w W : World} {b off B : Nat} {l : List Rec} (h : RecsAt w b off l) (hb : Below B w W) (hlt : b < B) : RecsAt W b off l := fun k r hr => by
  obtain ⟨h1, h2, h3⟩ := h k r hr
  exact ⟨(hb.cell (p := ⟨b, off + k * 1026, none⟩) hlt).trans h1, (hb.cell (p := ⟨b, off + k * 1026 + 1, none⟩) hlt).trans h2, fun j v hv => (hb.cell (p := ⟨b, off + k * 1026 + 2 + j, none⟩) hlt).trans (h3 j v hv)⟩
theorem OpsAt.later {w W : World} {p : Option Addr} {l : List Rec} (h : OpsAt w p l) (hb : Below w.heap.size w W) : OpsAt W p l := fun h0 => by
  obtain ⟨b, off, h1, h2, h3⟩ := h h0
  exact ⟨b, off, h1, Nat.lt_of_lt_of_le h2 hb.size, h3.later hb h2⟩
theorem OpsAt.take {w : World} {p : Option Addr} {l : List Rec} (h : OpsAt w p l) (k : Nat) : OpsAt w p (l.take k) := fun h0 => by
  obtain ⟨b, off, h1, h2, h3⟩ := h (by rw [List.length_take] at h0; omega)
  refine ⟨b, off, h1, h2, fun j r hr => h3 j r ?_⟩
  rw [List.getElem?_take] at hr
  split at hr
  · exact hr
  · cases hr
/-- How many ops the last barrier ends. -/
def sureN : List Rec → Nat
  | [] => 0
  | r :: t => if sureN t = 0 then (if r.kind = 2 then 1 else 0) else sureN t + 1
theorem sureN_zero : ∀ {l : List Rec}, (∀ (j : Nat) (r : Rec), l[j]? = some r → r.kind ≠ 2) → sureN l = 0
  | [], _ => rfl
  | r :: t, h => by
    unfold sureN
    rw [if_pos (sureN_zero fun j r hj => h (j + 1) r (by simpa using hj)), if_neg (h 0 r rfl)]
theorem sureN_at : ∀ {l : List Rec} {i : Nat} {r : Rec}, l[i]? = some r → r.kind = 2 → (∀ (j : Nat) (r : Rec), i < j → l[j]? = some r → r.kind ≠ 2) → sureN l = i + 1
  | [], i, r, h, _, _ => by simp at h
  | x :: t, 0, r, h, hr, hn => by
    have e : x = r := by simpa using h
    subst e
    unfold sureN
    rw [if_pos (sureN_zero fun j r hj => hn (j + 1) r (by omega) (by simpa using hj)), if_pos hr]
  | x :: t, i + 1, r, h, hr, hn => by
    have ih := sureN_at (l := t) (i := i) (by simpa using h) hr fun j r hj hg => hn (j + 1) r (by omega) (by simpa using hg)
    unfold sureN
    rw [if_neg (by omega), ih]
theorem sureN_le : ∀ l : List Rec, sureN l ≤ l.length
  | [] => Nat.le_refl _
  | r :: t => by
    have ih := sureN_le t
    unfold sureN
    rw [List.length_cons]
    split
    · split <;> omega
    · omega
theorem sureN_after : ∀ {l : List Rec} {j : Nat} {r : Rec}, sureN l ≤ j → l[j]? = some r → r.kind ≠ 2
  | [], _, _, _, h => by simp at h
  | x :: t, 0, r, hj, h => by
    have e : x = r := by simpa using h
    subst e
    unfold sureN at hj
    intro hx
    rw [if_pos hx] at hj
    split at hj <;> omega
  | x :: t, j + 1, r, hj, h => by
    refine sureN_after (l := t) (j := j) ?_ (by simpa using h)
    unfold sureN at hj
    split at hj
    · omega
    · omega
set_option maxRecDepth 20000 in
theorem sure_any (l : List Rec) (p : Option Addr) (cap : Nat) (w : World) (hl : l.length < 9223372036854775807) (h : OpsAt w p l) :
    Calls Try.prog 63 #[.slice p l.length cap] w fun e w' => e = .returned (.int .i64 (sureN l)) ∧ w' = w := by
  have HI : Hid (OpsAt w p l) := h
  clear h
  have hR0 : Hid (∀ (j : Nat) (r : Rec), (l.length : Int) - 1 < (j : Int) → l[j]? = some r → r.kind ≠ 2) := fun j r hj hr => by
    have := (List.getElem?_eq_some_iff.1 hr).1
    omega
  go_enter Try.func63, Try.ntmps63
  go_wp2
  go_loopw [3] (fun s3 wx => ∃ i : Int, -1 ≤ i ∧ i < l.length ∧ s3 = .int .i64 i ∧ wx = w ∧ Hid (∀ (j : Nat) (r : Rec), i < (j : Int) → l[j]? = some r → r.kind ≠ 2)) (fun s3 _ => (intOf s3 + 1).toNat)
  case atStart => exact ⟨(l.length : Int) - 1, by omega, by omega, by go_num, rfl, hR0.out⟩
  case round =>
    obtain ⟨i, h1, h2, rfl, rfl, HR⟩ := hrel
    clear hR0
    by_cases hi : 0 ≤ i
    · obtain ⟨k, rfl⟩ := Int.eq_ofNat_of_zero_le hi
      have hc : l[k]? = some l[k] := List.getElem?_eq_getElem (by omega)
      obtain ⟨b, off, rfl, hlt, hC⟩ := HI.out (by omega)
      generalize l[k] = r at hc
      obtain ⟨q1, _, _⟩ := hC k r hc
      by_cases hr : r.kind = 2
      · have e := sureN_at hc hr fun j r hj => HR.out j r (by omega)
        rw [hr] at q1
        have HE : Hid (sureN l = k + 1) := e
        clear e HR hC
        go_wp2
        go_ret
        refine ⟨?_, rfl⟩
        rw [HE.out]
        exact congrArg Ending.returned (by go_num)
      · have hR2 : Hid (∀ (j : Nat) (r : Rec), (k : Int) - 1 < (j : Int) → l[j]? = some r → r.kind ≠ 2) := fun j r' hj hr' => by
          by_cases e : j = k
          · subst e
            rw [hc] at hr'
            injection hr' with hr'
            subst hr'
            exact hr
          · exact HR.out j r' (by omega) hr'
        have hd : decide (r.kind = 2) = false := decide_eq_false hr
        clear HR hC
        go_wp2
        exact ⟨⟨(k : Int) - 1, by omega, by omega, by go_num, by trivial, hR2.out⟩, by first | (simp [intOf]; omega) | simp [intOf]⟩
    · obtain rfl : i = -1 := by omega
      have e : Hid (sureN l = 0) := sureN_zero fun j r hr => HR.out j r (by omega) hr
      clear HR
      go_wp2
      go_ret
      exact ⟨by rw [e.out]; rfl, rfl⟩
end Go.Proofs.Ytbnbbelkddbndaa
/- mayBe of past: whether an image, its ops and a number may be; no condition but that lists are not longer than lists can be. -/
namespace Go.Proofs.Ytbnbbelkddbndaa
open Go.RowKit
theorem belowN {B : Nat} {w W : World} (h : Below B w W) (q : Nat) : Below B w (W.drewN q) := h.trans ⟨rfl, rfl, rfl, Nat.le_refl _, fun _ _ => rfl⟩
/-- May an op be of an image of n blocks? -/
def opOk (n : Int) (r : Rec) : Bool := decide (r.kind = 2) || (decide (r.kind = 1) && !decide (r.pos < 0) && !decide (r.pos ≥ n))
def pmayB (n : Int) (l : List Cel) (ops : List Rec) (k : Int) : Bool := mayB n l && !decide (k < 0) && !decide (k > ops.length) && ops.all (opOk n)
theorem pmay_parts {n : Int} {l : List Cel} {ops : List Rec} {k : Int} (h : pmayB n l ops k = true) : mayB n l = true ∧ 0 ≤ k ∧ k ≤ ops.length ∧ ∀ r ∈ ops, opOk n r = true := by
  unfold pmayB at h
  simp only [Bool.and_eq_true, Bool.not_eq_true', decide_eq_false_iff_not, List.all_eq_true] at h
  exact ⟨h.1.1.1, by omega, by omega, h.2⟩
theorem opOk_write {n : Int} {r : Rec} (h : opOk n r = true) (hk : r.kind ≠ 2) : r.kind = 1 ∧ 0 ≤ r.pos ∧ r.pos < n := by
  unfold opOk at h
  simp [hk] at h
  exact ⟨h.1.1, by omega, by omega⟩
set_option maxRecDepth 20000 in
set_option maxHeartbeats 2000000 in
theorem maybe_any (n : Int) (l : List Cel) (p : Option Addr) (cap : Nat) (ops : List Rec) (po : Option Addr) (co : Nat) (k : Int) (w : World) (hl : l.length < 9223372036854775807) (h : ImgAt w p l) (hlo : ops.length < 9223372036854775807) (ho : OpsAt w po ops) :
    Calls Try.prog 53 #[.agg #[.int .i64 n, .slice p l.length cap], .slice po ops.length co, .int .i64 k] w fun e w' => e = .returned (.bool (pmayB n l ops k)) ∧ Below w.heap.size w w' := by
  have hB := below_new w (.cells #[.int .i64 n, .slice p l.length cap] 24)
  have hG := heap_alloc_new w (.cells #[.int .i64 n, .slice p l.length cap] 24)
  have hW := whole_any n l p cap _ hl (h.later hB)
  have HO : Hid (OpsAt w po ops) := ho
  clear h ho
  cases hm : mayB n l
  · have e0 : wholeE n l = 2 := by unfold wholeE; rw [hm]; rfl
    have e1 : pmayB n l ops k = false := by unfold pmayB; rw [hm]; rfl
    rw [e0] at hW
    rw [e1]
    go_enter Try.func53, Try.ntmps53
    go_wp2_with (go_at_call 22; refine hW.mono ?_; rintro e W1 ⟨rfl, hb1⟩)
    go_ret
    exact ⟨rfl, below_next hB hb1⟩
  · have e0 : wholeE n l = 0 := by unfold wholeE; rw [hm]; rfl
    rw [e0] at hW
    by_cases hk0 : k < 0
    · have e1 : pmayB n l ops k = false := by unfold pmayB; simp [hk0]
      rw [e1]
      go_enter Try.func53, Try.ntmps53
      go_wp2_with (go_at_call 22; refine hW.mono ?_; rintro e W1 ⟨rfl, hb1⟩)
      go_ret
      exact ⟨rfl, below_next hB hb1⟩
    · by_cases hk1 : k > ops.length
      · have e1 : pmayB n l ops k = false := by unfold pmayB; simp [hk1]
        rw [e1]
        go_enter Try.func53, Try.ntmps53
        go_wp2_with (go_at_call 22; refine hW.mono ?_; rintro e W1 ⟨rfl, hb1⟩)
        go_ret
        exact ⟨rfl, below_next hB hb1⟩
      · have hR0 : pmayB n l ops k = (ops.drop 0).all (opOk n) := by unfold pmayB; rw [hm]; simp [hk0, hk1]
        have HR : Hid (pmayB n l ops k = (ops.drop 0).all (opOk n)) := hR0
        clear hR0
        generalize pmayB n l ops k = res at *
        go_enter Try.func53, Try.ntmps53
        go_wp2_with (go_at_call 22; fail)
        refine hW.mono ?_
        rintro e W1 ⟨rfl, hb1⟩
        have HG1 : Hid (W1.heap[w.heap.size]? = some (.cells #[.int .i64 n, .slice p l.length cap] 24)) := heap_kept hG hb1
        have HB1 : Hid (Below w.heap.size w W1) := below_next hB hb1
        clear hW hb1 hB hG
        go_wp2
        go_loopw [23] (fun s23 wx => ∃ j : Nat, j ≤ ops.length ∧ s23 = .int .i64 j ∧ Hid (wx.heap[w.heap.size]? = some (.cells #[.int .i64 n, .slice p l.length cap] 24)) ∧ Hid (Below w.heap.size w wx) ∧ Hid (res = (ops.drop j).all (opOk n))) (fun s23 _ => ops.length - (intOf s23).toNat)
        case atStart => exact ⟨0, by omega, rfl, HG1.out, HB1.out, HR.out⟩
        case round =>
          obtain ⟨j, hj, rfl, HG, HB, HR2⟩ := hrel
          clear HR HG1 HB1
          by_cases hj2 : (j : Int) < ops.length
          · have hc : ops[j]? = some ops[j] := List.getElem?_eq_getElem (by omega)
            obtain ⟨b, off, rfl, hlt, hC⟩ := HO.out (by omega)
            have hd : ops.drop j = ops[j] :: ops.drop (j + 1) := List.drop_eq_getElem_cons (by omega)
            generalize ops[j] = r at hc hd
            obtain ⟨q1, q2, _⟩ := (hC.later HB.out hlt) j r hc
            have hR := HR2.out
            rw [hd, List.all_cons] at hR
            obtain ⟨T, hT⟩ : ∃ T, (ops.drop (j + 1)).all (opOk n) = T := ⟨_, rfl⟩
            rw [hT] at hR
            have HT : Hid ((ops.drop (j + 1)).all (opOk n) = T) := hT
            clear hT
            have i0 : wr.cell? ⟨w.heap.size, 0, none⟩ = some (.int .i64 n) := Joins.cell_of_block HG.out 0
            unfold opOk at hR
            obtain ⟨kd, x, f⟩ := r
            simp only at hR q1 q2
            clear hd hc HR2 hC
            by_cases h2 : kd = 2
            · subst h2
              have HR3 : Hid (res = (ops.drop (j + 1)).all (opOk n)) := by
                have e : res = (ops.drop (j + 1)).all (opOk n) := by rw [HT.out, hR]; simp
                exact e
              clear hR q2
              go_wp2
              exact ⟨⟨j + 1, by omega, by go_num, HG.out, HB.out, HR3.out⟩, by simp [intOf]; omega⟩
            · by_cases h1 : kd = 1
              · subst h1
                by_cases hx0 : x < 0
                · have hr0 : res = false := by rw [hR]; simp [hx0]
                  have g0 : decide (x < 0) = true := decide_eq_true hx0
                  clear hR
                  subst hr0
                  go_wp2
                  go_quiet (fail)
                  go_wp2
                  go_ret
                  exact ⟨rfl, (belowN HB.out _)⟩
                · by_cases hx1 : x ≥ n
                  · have hr0 : res = false := by rw [hR]; simp [hx1]
                    have g0 : decide (x < 0) = false := decide_eq_false hx0
                    have g1 : decide (n ≤ x) = true := decide_eq_true hx1
                    clear hR
                    subst hr0
                    go_wp2
                    go_quiet (fail)
                    go_wp2
                    go_ret
                    exact ⟨rfl, (belowN HB.out _)⟩
                  · have g0 : decide (x < 0) = false := decide_eq_false hx0
                    have g1 : decide (n ≤ x) = false := decide_eq_false hx1
                    have HR3 : Hid (res = (ops.drop (j + 1)).all (opOk n)) := by
                      have e : res = (ops.drop (j + 1)).all (opOk n) := by rw [HT.out, hR]; simp [hx0, hx1]
                      exact e
                    clear hR
                    go_wp2
                    go_quiet (fail)
                    go_wp2
                    exact ⟨⟨j + 1, by omega, by go_num, HG.out, belowN HB.out _, HR3.out⟩, by simp [intOf]; omega⟩
              · have hr0 : res = false := by rw [hR]; simp [h2, h1]
                have hd2 : decide (kd = 2) = false := decide_eq_false h2
                have hd1 : decide (kd = 1) = false := decide_eq_false h1
                clear hR
                subst hr0
                go_wp2
                go_ret
                exact ⟨rfl, HB.out⟩
          · obtain rfl : j = ops.length := by omega
            have hr0 : res = true := by rw [HR2.out, List.drop_length]; rfl
            subst hr0
            go_wp2
            go_ret
            exact ⟨rfl, HB.out⟩
end Go.Proofs.Ytbnbbelkddbndaa
/- Maps from numbers to where blocks lie; byNumber: the blocks of an image that may be; no condition. -/
namespace Go.Proofs.Ytbnbbelkddbndaa
open Go.RowKit Go.Maps
/-- Blocks by their numbers: none is blank. -/
abbrev Con := Int → Option (Nat → Int)
def holdC (c : Con) (k : Int) (f : Nat → Int) : Con := fun j => if j = k then (if blankB f then none else some f) else c j
def holdCs (c : Con) (l : List Cel) : Con := l.foldl (fun c x => holdC c x.1 x.2) c
theorem holdCs_snoc (c : Con) (l : List Cel) (x : Cel) : holdCs c (l ++ [x]) = holdC (holdCs c l) x.1 x.2 := by simp [holdCs]
theorem holdCs_append (c : Con) (l m : List Cel) : holdCs c (l ++ m) = holdCs (holdCs c l) m := by simp [holdCs]
def noC : Con := fun _ => none
/-- The map at b says where the blocks of c lie: below B. -/
def PtrsAt (B : Nat) (w : World) (b : Nat) (c : Con) : Prop :=
  ∃ m, MapIs Try.prog 3 w b m ∧ (∀ k, c k = none → m k = none) ∧ ∀ k f, c k = some f → ∃ g off, m k = some (.pointer (some ⟨g, off, none⟩)) ∧ g < B ∧ BlkAt w g off f
variable {B : Nat} {w w' : World} {b : Nat} {c : Con}
theorem PtrsAt.lt (h : PtrsAt B w b c) : b < w.heap.size := by obtain ⟨m, h, _⟩ := h; exact h.lt
theorem PtrsAt.isMap (h : PtrsAt B w b c) : ∃ es clock, w.heap[b]? = some (.map es clock) := by obtain ⟨m, h, _⟩ := h; exact h.isMap
theorem PtrsAt.ne (h : PtrsAt B w b c) {k : Nat} {cs : Array Value} {t : TypeId} (hk : w.heap[k]? = some (.cells cs t)) : k ≠ b := fun e => by
  obtain ⟨es, ck, hm⟩ := h.isMap
  rw [e, hm] at hk
  cases hk
theorem PtrsAt.kept (h : PtrsAt B w b c) (hb : w'.heap[b]? = w.heap[b]?) (hB : ∀ k, k < B → w'.heap[k]? = w.heap[k]?) : PtrsAt B w' b c := by
  obtain ⟨m, h1, h2, h3⟩ := h
  refine ⟨m, h1.kept hb, h2, fun k f hk => ?_⟩
  obtain ⟨g, off, q1, q2, q3⟩ := h3 k f hk
  exact ⟨g, off, q1, q2, q3.kept (hB g q2)⟩
theorem PtrsAt.later (h : PtrsAt B w b c) (hB : B ≤ w.heap.size) (hb : Below w.heap.size w w') : PtrsAt B w' b c :=
  h.kept (hb.block b h.lt) fun k hk => hb.block k (by omega)
theorem PtrsAt.mono {B' : Nat} (h : PtrsAt B w b c) (hB : B ≤ B') : PtrsAt B' w b c := by
  obtain ⟨m, h1, h2, h3⟩ := h
  refine ⟨m, h1, h2, fun k f hk => ?_⟩
  obtain ⟨g, off, q1, q2, q3⟩ := h3 k f hk
  exact ⟨g, off, q1, by omega, q3⟩
theorem PtrsAt.made (w : World) (B : Nat) : PtrsAt B (w.alloc (.map #[] 0)) w.heap.size noC :=
  ⟨_, MapIs.made w, fun _ _ => rfl, fun k f h => by simp [noC] at h⟩
/-- A block that is not blank is put. -/
theorem putP {m : Int → Option Value} (h2 : ∀ k, c k = none → m k = none) (h3 : ∀ k f, c k = some f → ∃ g off, m k = some (.pointer (some ⟨g, off, none⟩)) ∧ g < B ∧ BlkAt w g off f)
    {x : Int} {f : Nat → Int} {g off : Nat} (hg : g < B) (hf : BlkAt w g off f) (hbl : blankB f = false) (hm : MapIs Try.prog 3 w' b (fun y => if y = x then some (.pointer (some ⟨g, off, none⟩)) else m y))
    (hB : ∀ k, k < B → w'.heap[k]? = w.heap[k]?) : PtrsAt B w' b (holdC c x f) := by
  refine ⟨_, hm, fun k hk => ?_, fun k f' hk => ?_⟩
  · unfold holdC at hk
    by_cases e : k = x
    · rw [if_pos e, hbl] at hk; cases hk
    · rw [if_neg e] at hk ⊢; exact h2 k hk
  · unfold holdC at hk
    by_cases e : k = x
    · rw [if_pos e, hbl] at hk
      have e2 : f = f' := by simpa using hk
      subst e2
      rw [if_pos e]
      exact ⟨g, off, rfl, hg, hf.kept (hB g hg)⟩
    · rw [if_neg e] at hk ⊢
      obtain ⟨g', off', q1, q2, q3⟩ := h3 k f' hk
      exact ⟨g', off', q1, q2, q3.kept (hB g' q2)⟩
/-- A blank one is struck. -/
theorem delP {m : Int → Option Value} (h2 : ∀ k, c k = none → m k = none) (h3 : ∀ k f, c k = some f → ∃ g off, m k = some (.pointer (some ⟨g, off, none⟩)) ∧ g < B ∧ BlkAt w g off f)
    {x : Int} {f : Nat → Int} (hbl : blankB f = true) (hm : MapIs Try.prog 3 w' b (fun y => if y = x then none else m y))
    (hB : ∀ k, k < B → w'.heap[k]? = w.heap[k]?) : PtrsAt B w' b (holdC c x f) := by
  refine ⟨_, hm, fun k hk => ?_, fun k f' hk => ?_⟩
  · unfold holdC at hk
    by_cases e : k = x
    · rw [if_pos e]
    · rw [if_neg e] at hk ⊢; exact h2 k hk
  · unfold holdC at hk
    by_cases e : k = x
    · rw [if_pos e, hbl] at hk; cases hk
    · rw [if_neg e] at hk ⊢
      obtain ⟨g', off', q1, q2, q3⟩ := h3 k f' hk
      exact ⟨g', off', q1, q2, q3.kept (hB g' q2)⟩
theorem makeHint (n : Nat) (w : World) : (Instr.makeMap 84 (some (.int .i64 (n : Int)))).run Try.prog w = .ok (.map (some w.heap.size)) (w.alloc (.map #[] 0)) := by
  simp [Instr.makeMap, run_underlying Try.underlying84, go_sem]
theorem inTop_bnd {n x : Int} (h : bndB n = true) (hx : 0 ≤ x ∧ x < n) : inTop x := by
  have : 1 ≤ n ∧ n ≤ 1048576 := by simpa [bndB] using h
  unfold inTop
  omega
set_option maxRecDepth 20000 in
set_option maxHeartbeats 1000000 in
theorem byNumber_of (n : Int) (l : List Cel) (p : Option Addr) (cap : Nat) (w : World) (hl : l.length < 9223372036854775807) (h : ImgAt w p l) (hm : mayB n l = true) :
    Calls Try.prog 54 #[.agg #[.int .i64 n, .slice p l.length cap]] w fun e w' => ∃ b, e = .returned (.map (some b)) ∧ PtrsAt w.heap.size w' b (holdCs noC l) ∧ w.heap.size ≤ b ∧ Below w.heap.size w w' := by
  have hB := below_new w (.cells #[.int .i64 n, .slice p l.length cap] 24)
  have hG := heap_alloc_new w (.cells #[.int .i64 n, .slice p l.length cap] 24)
  have hmm := makeHint
  obtain ⟨hbn, hbs⟩ := may_bounds hm
  have HI : Hid (ImgAt w p l) := h
  have HBs : Hid (∀ c ∈ l, 0 ≤ c.1 ∧ c.1 < n ∧ blankB c.2 = false) := hbs
  have HP : Hid (PtrsAt w.heap.size ((w.alloc (.cells #[.int .i64 n, .slice p l.length cap] 24)).alloc (.map #[] 0)) (w.heap.size + 1) (holdCs noC (l.take 0))) := by
    have := PtrsAt.made (w.alloc (.cells #[.int .i64 n, .slice p l.length cap] 24)) w.heap.size
    rw [show (w.alloc (.cells #[.int .i64 n, .slice p l.length cap] 24)).heap.size = w.heap.size + 1 by simp] at this
    exact this
  have HB0 : Hid (Below w.heap.size w ((w.alloc (.cells #[.int .i64 n, .slice p l.length cap] 24)).alloc (.map #[] 0))) := (((Below.refl _ _).alloc (Nat.le_refl _) _).alloc (by simp) _)
  have HG0 : Hid (((w.alloc (.cells #[.int .i64 n, .slice p l.length cap] 24)).alloc (.map #[] 0)).heap[w.heap.size]? = some (.cells #[.int .i64 n, .slice p l.length cap] 24)) := heap_kept hG (below_new _ _)
  clear h hm hbs hB hG
  go_enter Try.func54, Try.ntmps54
  go_wp2
  generalize hBB : w.heap.size = B at *
  go_loopw [12] (fun s12 wx => ∃ k : Nat, k ≤ l.length ∧ s12 = .int .i64 k ∧ Hid (PtrsAt B wx (B + 1) (holdCs noC (l.take k))) ∧ Hid (Below B w wx) ∧ Hid (wx.heap[B]? = some (.cells #[.int .i64 n, .slice p l.length cap] 24))) (fun s12 _ => l.length - (intOf s12).toNat)
  case atStart => exact ⟨0, by omega, rfl, HP.out, HB0.out, HG0.out⟩
  case round =>
    obtain ⟨k, hk, rfl, HP1, HB1, HG1⟩ := hrel
    clear HP HB0 HG0 hmm
    by_cases hk2 : (k : Int) < l.length
    · have hc : l[k]? = some l[k] := List.getElem?_eq_getElem (by omega)
      obtain ⟨b, off, rfl, hlt, hC⟩ := HI.out (by omega)
      have ht := take_snoc hc
      generalize l[k] = c at hc ht
      have hmem := List.mem_of_getElem? hc
      obtain ⟨y1, y2, y3⟩ := HBs.out c hmem
      have hin := inTop_bnd hbn ⟨y1, y2⟩
      rw [hBB] at hlt
      have hCr : CelsAt wr b off l := fun k c hc => by
        obtain ⟨h1, h2⟩ := hC k c hc
        exact ⟨(HB1.out.cell (p := ⟨b, off + k * 1025, none⟩) hlt).trans h1, fun j v hv => (HB1.out.cell (p := ⟨b, off + k * 1025 + 1 + j, none⟩) hlt).trans (h2 j v hv)⟩
      obtain ⟨q1, q2⟩ := hCr k c hc
      have i1 : wr.cell? ⟨B, 1, none⟩ = some (.slice (some ⟨b, off, none⟩) l.length cap) := Joins.cell_of_block HG1.out 1
      obtain ⟨m, hM, h2, h3⟩ := HP1.out
      have HN : Hid (∀ w', MapIs Try.prog 3 w' (B + 1) (fun y => if y = c.1 then some (.pointer (some ⟨b, off + k * 1025 + 1, none⟩)) else m y) → wr.drew.grownBy w' (some (B + 1)) →
          PtrsAt B w' (B + 1) (holdCs noC (l.take (k + 1))) ∧ Below B w w' ∧ w'.heap[B]? = some (.cells #[.int .i64 n, .slice (some ⟨b, off, none⟩) l.length cap] 24)) := fun w' hm' hg' => by
        have hbk : ∀ i, i < B + 1 → w'.heap[i]? = wr.heap[i]? := fun i hi => hg'.block i (by have := hM.lt; show i < wr.heap.size; omega) (fun q => by injection q with q; omega)
        refine ⟨?_, HB1.out.drew.grown hg' (by have := HB1.out.size; show B ≤ wr.heap.size; have := hM.lt; omega) (fun j hj => by injection hj with hj; omega), (hbk B (by omega)).trans HG1.out⟩
        rw [ht, holdCs_snoc]
        exact putP h2 h3 (by omega) q2 y3 hm' fun i hi => hbk i (by omega)
      clear HP1 HB1 HG1 hC hCr q2 h2 h3 ht hc hmem
      go_wp2
      go_still_tail 12, (by kernel_rfl)
      change wpList _ _ _ _ _ (World.drew _)
      refine wpList_putM rfl _ _ _ 84 rfl 89 Try.underlying3 keyed3 Try.underlying84 (B + 1) m rfl (hM.kept (w' := wr.drew) rfl) c.1 hin rfl _ rfl ?_
      intro w' hm' hg'
      obtain ⟨n1, n2, n3⟩ := HN.out w' hm' hg'
      have N1 : Hid (PtrsAt B w' (B + 1) (holdCs noC (l.take (k + 1)))) := n1
      have N2 : Hid (Below B w w') := n2
      have N3 : Hid (w'.heap[B]? = some (.cells #[.int .i64 n, .slice (some ⟨b, off, none⟩) l.length cap] 24)) := n3
      clear hm' hg' HN hM n1 n2 n3 i1 q1
      go_wp2
      exact ⟨⟨k + 1, by omega, by go_num, N1.out, N2.out, N3.out⟩, by simp [intOf]; omega⟩
    · obtain rfl : k = l.length := by omega
      have hP := HP1.out
      rw [List.take_length] at hP
      have HP2 : Hid (PtrsAt B wr (B + 1) (holdCs noC l)) := hP
      clear hP HP1 HG1
      go_wp2
      go_ret
      exact ⟨B + 1, rfl, HP2.out, by omega, HB1.out⟩
end Go.Proofs.Ytbnbbelkddbndaa
/- The writes that are made when the power has gone: which they are; eachMade with After's own two closures; no condition. -/
namespace Go.Proofs.Ytbnbbelkddbndaa
open Go.RowKit Go.Maps
/-- Is an op made? -/
def isMade (keep : List Bool) (n i : Nat) (r : Rec) : Bool := decide (r.kind = 1) && (decide (i < n) || keep.getD (i - n) false)
def madeGo (keep : List Bool) (n : Nat) : Nat → List Rec → List Cel
  | _, [] => []
  | i, r :: t => (if isMade keep n i r then [(r.pos, r.dat)] else []) ++ madeGo keep n (i + 1) t
theorem madeGo_append (keep : List Bool) (n : Nat) : ∀ (l m : List Rec) (i : Nat), madeGo keep n i (l ++ m) = madeGo keep n i l ++ madeGo keep n (i + l.length) m
  | [], m, i => by simp [madeGo]
  | x :: t, m, i => by
    show (if isMade keep n i x then [(x.pos, x.dat)] else []) ++ madeGo keep n (i + 1) (t ++ m) = ((if isMade keep n i x then [(x.pos, x.dat)] else []) ++ madeGo keep n (i + 1) t) ++ _
    rw [madeGo_append keep n t m (i + 1), List.append_assoc, List.length_cons, show i + (t.length + 1) = i + 1 + t.length by omega]
theorem madeGo_snoc (keep : List Bool) (n : Nat) (l : List Rec) (r : Rec) : madeGo keep n 0 (l ++ [r]) = madeGo keep n 0 l ++ (if isMade keep n l.length r then [(r.pos, r.dat)] else []) := by
  rw [madeGo_append, Nat.zero_add]
  simp [madeGo]
/-- All that is made of ops. -/
def madeL (keep : List Bool) (ops : List Rec) : List Cel := madeGo keep (sureN ops) 0 ops
theorem takeR_snoc {l : List Rec} {k : Nat} {c : Rec} (h : l[k]? = some c) : l.take (k + 1) = l.take k ++ [c] := by
  rw [List.take_add_one, h]
  rfl
theorem madeGo_mem {keep : List Bool} {n : Nat} : ∀ {l : List Rec} {i : Nat} {c : Cel}, c ∈ madeGo keep n i l → ∃ r ∈ l, r.kind = 1 ∧ c = (r.pos, r.dat)
  | [], _, _, h => by simp [madeGo] at h
  | x :: t, i, c, h => by
    unfold madeGo at h
    rcases List.mem_append.1 h with h | h
    · split at h
      · rename_i hx
        unfold isMade at hx
        simp at hx
        exact ⟨x, by simp, hx.1, by simpa using h⟩
      · simp at h
    · obtain ⟨r, h1, h2, h3⟩ := madeGo_mem h
      exact ⟨r, by simp [h1], h2, h3⟩
set_option maxRecDepth 20000 in
theorem kept_any {ka : Option Addr} {kcap : Nat} (keep : List Bool) (i : Int) (hi : 0 ≤ i) (kc : Nat) (w : World) (hl : keep.length < 9223372036854775807) (hc : w.heap[kc]? = some (.cells #[.slice ka keep.length kcap] 26)) (hk : BoolsAt w (.slice ka keep.length kcap) keep) :
    Calls Try.prog 55 #[.int .i64 i, .pointer (some ⟨kc, 0, none⟩)] w fun e w' => e = .returned (.bool (keep.getD i.toNat false)) ∧ w' = w := by
  obtain ⟨j, rfl⟩ := Int.eq_ofNat_of_zero_le hi
  have c0 : w.cell? ⟨kc, 0, none⟩ = some (.slice ka keep.length kcap) := Joins.cell_of_block hc 0
  by_cases hj : (j : Int) < keep.length
  · have hx : keep[j]? = some keep[j] := List.getElem?_eq_getElem (by omega)
    have e : keep.getD (Int.ofNat j).toNat false = keep[j] := by
      show keep.getD j false = _
      rw [List.getD_eq_getElem?_getD, hx]
      rfl
    rw [show ((j : Int)).toNat = (Int.ofNat j).toNat from rfl, e]
    obtain ⟨p, c, h1, h2⟩ := hk
    injection h1 with h1 _ h3
    subst h1 h3
    obtain ⟨b, off, rfl, h4⟩ := h2 (by omega)
    have q := h4 j _ hx
    generalize keep[j] = x at *
    clear h4 h2 e hx
    go_enter Try.func55, Try.ntmps55
    go_wp2
    go_ret
    exact ⟨rfl, rfl⟩
  · have e : keep.getD ((j : Int)).toNat false = false := by
      show keep.getD j false = _
      rw [List.getD_eq_getElem?_getD, List.getElem?_eq_none (by omega)]
      rfl
    rw [e]
    clear hk e
    go_enter Try.func55, Try.ntmps55
    go_wp2
    go_ret
    exact ⟨rfl, rfl⟩
variable {B : Nat} {w w' : World} {b mb lc : Nat} {c : Con}
set_option maxRecDepth 20000 in
theorem do_any (r : Rec) {off : Nat} (hp : w.cell? ⟨b, off + 1, none⟩ = some (.int .i64 r.pos)) (hd : BlkAt w b (off + 2) r.dat) (hb : b < B) (hBm : B ≤ mb) (hin : inTop r.pos) (hlc : w.heap[lc]? = some (.cells #[.map (some mb)] 84)) (hP : PtrsAt B w mb c) :
    Calls Try.prog 57 #[.pointer (some ⟨b, off, none⟩), .pointer (some ⟨lc, 0, none⟩)] w fun e w' => e = .returned (.tuple #[]) ∧ PtrsAt B w' mb (holdC c r.pos r.dat) ∧ Fr (fun i => i = mb) w w' := by
  have c0 : w.cell? ⟨lc, 0, none⟩ = some (.map (some mb)) := Joins.cell_of_block hlc 0
  have hbd := built58
  have hW := inTop.wf hin
  obtain ⟨m, hM, h2, h3⟩ := hP
  have hlt := hM.lt
  cases hbl : blankB r.dat
  · have HN : Hid (∀ w', MapIs Try.prog 3 w' mb (fun y => if y = r.pos then some (.pointer (some ⟨b, off + 2, none⟩)) else m y) → w.drew.grownBy w' (some mb) → PtrsAt B w' mb (holdC c r.pos r.dat) ∧ Fr (fun i => i = mb) w w') := fun w' hm' hg' => by
      have hF : Fr (fun i => i = mb) w w' := (Fr.drew w).trans ((Fr.ofGrown hg').mono fun i _ q => by injection q with q; exact q.symm) fun _ _ q => q
      exact ⟨putP h2 h3 hb hd hbl hm' fun i hi => hF.block i (by omega) (by omega), hF⟩
    unfold blankB at hbl
    clear h2 h3
    generalize nought = N at *
    go_enter Try.func57, Try.ntmps57
    go_wp2_with (first | refine wpList_loadM rfl _ rfl b (off + 2) rfl r.dat hd ?_ | refine wpList_build58 rfl rfl hbd ?_ | refine wpList_eq58 rfl (.tmp 6) (.tmp 7) rfl r.dat N false rfl rfl hbl ?_)
    go_still_tail 8, (by kernel_rfl)
    change wpList _ _ _ _ _ (World.drew _)
    refine wpList_putM rfl _ _ _ 84 rfl 89 Try.underlying3 keyed3 Try.underlying84 mb m rfl (hM.kept (w' := w.drew) rfl) r.pos hin rfl _ rfl ?_
    intro w' hm' hg'
    have n1 : Hid (PtrsAt B w' mb (holdC c r.pos r.dat) ∧ Fr (fun i => i = mb) w w') := HN.out w' hm' hg'
    clear hm' hg' HN
    go_wp2
    go_end0
    exact ⟨rfl, n1.out.1, n1.out.2⟩
  · have HN : Hid (∀ w', MapIs Try.prog 3 w' mb (fun y => if y = r.pos then none else m y) → w.drew.grownBy w' (some mb) → PtrsAt B w' mb (holdC c r.pos r.dat) ∧ Fr (fun i => i = mb) w w') := fun w' hm' hg' => by
      have hF : Fr (fun i => i = mb) w w' := (Fr.drew w).trans ((Fr.ofGrown hg').mono fun i _ q => by injection q with q; exact q.symm) fun _ _ q => q
      exact ⟨delP h2 h3 hbl hm' fun i hi => hF.block i (by omega) (by omega), hF⟩
    unfold blankB at hbl
    clear h2 h3
    generalize nought = N at *
    go_enter Try.func57, Try.ntmps57
    go_wp2_with (first | refine wpList_loadM rfl _ rfl b (off + 2) rfl r.dat hd ?_ | refine wpList_build58 rfl rfl hbd ?_ | refine wpList_eq58 rfl (.tmp 6) (.tmp 7) rfl r.dat N true rfl rfl hbl ?_)
    go_still_tail 5, (by kernel_rfl)
    change wpList _ _ _ _ _ (World.drew _)
    refine wpList_delM rfl _ _ 84 rfl 89 Try.underlying3 keyed3 Try.underlying84 mb m rfl (hM.kept (w' := w.drew) rfl) r.pos hW rfl ?_
    intro w' hm' hg'
    have n1 : Hid (PtrsAt B w' mb (holdC c r.pos r.dat) ∧ Fr (fun i => i = mb) w w') := HN.out w' hm' hg'
    clear hm' hg' HN
    go_wp2
    refine bodyPost_ret (results_none rfl _ _ _) rfl ?_
    exact ⟨rfl, n1.out.1, n1.out.2⟩
/-- Ops that lie below B. -/
def OpsIn (B : Nat) (w : World) (p : Option Addr) (l : List Rec) : Prop := 0 < l.length → ∃ b off, p = some ⟨b, off, none⟩ ∧ b < B ∧ RecsAt w b off l
theorem OpsAt.toIn {w : World} {p : Option Addr} {l : List Rec} (h : OpsAt w p l) : OpsIn w.heap.size w p l := h
theorem OpsIn.at {w : World} {p : Option Addr} {l : List Rec} (h : OpsIn B w p l) (hB : B ≤ w.heap.size) : OpsAt w p l := fun h0 => by
  obtain ⟨b, off, h1, h2, h3⟩ := h h0
  exact ⟨b, off, h1, by omega, h3⟩
theorem OpsIn.kept {w w' : World} {p : Option Addr} {l : List Rec} (h : OpsIn B w p l) (hB : ∀ k, k < B → w'.heap[k]? = w.heap[k]?) : OpsIn B w' p l := fun h0 => by
  obtain ⟨b, off, h1, h2, h3⟩ := h h0
  refine ⟨b, off, h1, h2, fun k r hr => ?_⟩
  obtain ⟨q1, q2, q3⟩ := h3 k r hr
  exact ⟨(World.cell?_of_block (hB b h2)).trans q1, (World.cell?_of_block (hB b h2)).trans q2, q3.kept (hB b h2)⟩
set_option maxRecDepth 20000 in
set_option maxHeartbeats 1000000 in
theorem each_after {n : Int} {ops : List Rec} {keep : List Bool} {po ka : Option Addr} {co kcap kc : Nat} (ho : OpsIn B w po ops) (hBm : B ≤ mb) (hBw : B ≤ w.heap.size) (hP : PtrsAt B w mb c) (hlc : w.heap[lc]? = some (.cells #[.map (some mb)] 84)) (hkc : w.heap[kc]? = some (.cells #[.slice ka keep.length kcap] 26))
    (hk : BoolsAt w (.slice ka keep.length kcap) keep) (hok : ∀ r ∈ ops, opOk n r = true) (hbn : bndB n = true) (hlo : ops.length < 9223372036854775807) (hlk : keep.length < 9223372036854775807) :
    Calls Try.prog 56 #[.slice po ops.length co, .func (.func 55) #[] #[.pointer (some ⟨kc, 0, none⟩)], .func (.func 57) #[] #[.pointer (some ⟨lc, 0, none⟩)]] w fun e w' => e = .returned (.tuple #[]) ∧ PtrsAt B w' mb (holdCs c (madeL keep ops)) ∧ Fr (fun i => i = mb) w w' := by
  have hS := sure_any ops po co w hlo (ho.at hBw)
  have hlcm : lc ≠ mb := hP.ne hlc
  have hkcm : kc ≠ mb := hP.ne hkc
  have HO : Hid (OpsIn B w po ops) := ho
  have HP : Hid (PtrsAt B w mb c) := hP
  have HL : Hid (w.heap[lc]? = some (.cells #[.map (some mb)] 84)) := hlc
  have HKc : Hid (w.heap[kc]? = some (.cells #[.slice ka keep.length kcap] 26)) := hkc
  have HK : Hid (BoolsAt w (.slice ka keep.length kcap) keep) := hk
  have HOk : Hid (∀ r ∈ ops, opOk n r = true) := hok
  have hsl := sureN_le ops
  have hmbl := hP.lt
  obtain ⟨m0, hM0, _⟩ := hP
  have HM0 : Hid (MapIs Try.prog 3 w mb m0) := hM0
  clear ho hM0 hlc hkc hk hok
  unfold madeL
  go_enter Try.func56, Try.ntmps56
  go_wp2_with (go_at_call 63; refine hS.mono ?_; rintro e W ⟨rfl, rfl⟩)
  obtain ⟨N, hN⟩ : ∃ N, sureN ops = N := ⟨_, rfl⟩
  rw [hN] at hsl ⊢
  have HN : Hid (sureN ops = N) := hN
  clear hN hS
  go_loopw [12] (fun s12 wx => ∃ j : Nat, j ≤ ops.length ∧ s12 = .int .i64 j ∧ Hid (PtrsAt B wx mb (holdCs c (madeGo keep N 0 (ops.take j)))) ∧ Hid (Fr (fun i => i = mb) W wx)) (fun s12 _ => ops.length - (intOf s12).toNat)
  case atStart => exact ⟨0, by omega, rfl, HP.out, Fr.refl _ _⟩
  case round =>
    obtain ⟨j, hj, rfl, HP1, HF1⟩ := hrel
    clear HP
    by_cases hj2 : (j : Int) < ops.length
    · have hc : ops[j]? = some ops[j] := List.getElem?_eq_getElem (by omega)
      have hOr := HO.out.kept (w' := wr) fun k hk => HF1.out.block k (by omega) (by omega)
      obtain ⟨b, off, rfl, hlt, hC⟩ := hOr (by omega)
      have ht := takeR_snoc hc
      have htl : (ops.take j).length = j := by rw [List.length_take]; omega
      generalize ops[j] = r at hc ht
      have hmem := List.mem_of_getElem? hc
      obtain ⟨q1, q2, q3⟩ := hC j r hc
      have hnx : madeGo keep N 0 (ops.take (j + 1)) = madeGo keep N 0 (ops.take j) ++ (if isMade keep N j r then [(r.pos, r.dat)] else []) := by rw [ht, madeGo_snoc, htl]
      have hlcr : wr.heap[lc]? = some (.cells #[.map (some mb)] 84) := (HF1.out.block lc (Array.getElem?_eq_some_iff.1 HL.out).1 hlcm).trans HL.out
      have hkcr : wr.heap[kc]? = some (.cells #[.slice ka keep.length kcap] 26) := (HF1.out.block kc (Array.getElem?_eq_some_iff.1 HKc.out).1 hkcm).trans HKc.out
      have hkr : BoolsAt wr (.slice ka keep.length kcap) keep := HK.out.kept HF1.out fun b x off hx e => bool_no_map hx HM0.out e
      have HStep : Hid (isMade keep N j r = false → PtrsAt B wr mb (holdCs c (madeGo keep N 0 (ops.take (j + 1))))) := fun e => by
        rw [hnx, e]
        simpa using HP1.out
      have hdo : isMade keep N j r = true → Calls Try.prog 57 #[.pointer (some ⟨b, off + j * 1026, none⟩), .pointer (some ⟨lc, 0, none⟩)] wr fun e w' => e = .returned (.tuple #[]) ∧ PtrsAt B w' mb (holdCs c (madeGo keep N 0 (ops.take (j + 1)))) ∧ Fr (fun i => i = mb) W w' := fun e => by
        have hk1 : r.kind = 1 := by unfold isMade at e; simp at e; exact e.1
        obtain ⟨_, p1, p2⟩ := opOk_write (HOk.out r hmem) (by omega)
        refine (do_any r q2 q3 hlt hBm (inTop_bnd hbn ⟨p1, p2⟩) hlcr HP1.out).mono ?_
        rintro e' w' ⟨h1, h2, h3⟩
        refine ⟨h1, ?_, HF1.out.trans h3 fun _ _ q => q⟩
        rw [hnx, e, if_pos rfl, holdCs_snoc]
        exact h2
      have HDo : Hid (isMade keep N j r = true → Calls Try.prog 57 #[.pointer (some ⟨b, off + j * 1026, none⟩), .pointer (some ⟨lc, 0, none⟩)] wr fun e w' => e = .returned (.tuple #[]) ∧ PtrsAt B w' mb (holdCs c (madeGo keep N 0 (ops.take (j + 1)))) ∧ Fr (fun i => i = mb) W w') := hdo
      have HIM : Hid (isMade keep N j r = (decide (r.kind = 1) && (decide (j < N) || keep.getD (j - N) false))) := rfl
      have hkk := fun hi => kept_any keep ((j : Int) - (N : Int)) hi kc wr hlk hkcr hkr
      clear hdo hOr hC ht htl hnx q2 q3 hmem hc hkr hkcr
      by_cases hr : r.kind = 1
      · rw [hr] at q1
        by_cases hjN : (j : Int) < (N : Int)
        · have hD := HDo.out (by rw [HIM.out, hr]; simp; omega)
          clear hkk
          go_wp2_with (go_at_call 57; fail)
          refine hD.mono ?_
          rintro e W2 ⟨rfl, hP2, hF2⟩
          have HP2 : Hid (PtrsAt B W2 mb (holdCs c (madeGo keep N 0 (ops.take (j + 1))))) := hP2
          have HF2 : Hid (Fr (fun i => i = mb) W W2) := hF2
          clear hP2 hF2 hD
          go_wp2
          exact ⟨⟨j + 1, by omega, by go_num, HP2.out, HF2.out⟩, by simp [intOf]; omega⟩
        · have hK := hkk (by omega)
          have et : ((j : Int) - (N : Int)).toNat = j - N := by omega
          rw [et] at hK
          cases hkv : keep.getD (j - N) false
          · rw [hkv] at hK
            have HS := HStep.out (by rw [HIM.out, hkv]; simp; omega)
            have HP2 : Hid (PtrsAt B wr mb (holdCs c (madeGo keep N 0 (ops.take (j + 1))))) := HS
            clear HS hkk
            go_wp2_with (go_at_call 55; refine hK.mono ?_; rintro e W2 ⟨rfl, he⟩; obtain rfl := he.symm)
            exact ⟨⟨j + 1, by omega, by go_num, HP2.out, HF1.out⟩, by simp [intOf]; omega⟩
          · rw [hkv] at hK
            have hD := HDo.out (by rw [HIM.out, hkv, hr]; simp)
            clear hkk
            go_wp2_with (first | (go_at_call 55; refine hK.mono ?_; rintro e W2 ⟨rfl, he⟩; obtain rfl := he.symm) | (go_at_call 57; fail))
            refine hD.mono ?_
            rintro e W2 ⟨rfl, hP2, hF2⟩
            have HP2 : Hid (PtrsAt B W2 mb (holdCs c (madeGo keep N 0 (ops.take (j + 1))))) := hP2
            have HF2 : Hid (Fr (fun i => i = mb) W W2) := hF2
            clear hP2 hF2 hD
            go_wp2
            exact ⟨⟨j + 1, by omega, by go_num, HP2.out, HF2.out⟩, by simp [intOf]; omega⟩
      · have HS := HStep.out (by rw [HIM.out]; simp [hr])
        have HP2 : Hid (PtrsAt B wr mb (holdCs c (madeGo keep N 0 (ops.take (j + 1))))) := HS
        have hd : decide (r.kind = 1) = false := decide_eq_false hr
        clear HS hkk
        go_wp2
        exact ⟨⟨j + 1, by omega, by go_num, HP2.out, HF1.out⟩, by simp [intOf]; omega⟩
    · obtain rfl : j = ops.length := by omega
      have hP := HP1.out
      rw [List.take_length] at hP
      have HP2 : Hid (PtrsAt B wr mb (holdCs c (madeGo keep N 0 ops))) := hP
      clear hP HP1
      go_wp2
      go_end0
      exact ⟨rfl, by rw [HN.out]; exact HP2.out, HF1.out⟩
end Go.Proofs.Ytbnbbelkddbndaa
