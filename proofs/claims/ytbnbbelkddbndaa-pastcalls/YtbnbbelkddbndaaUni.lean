/- Each function of past and the document's beside it, in one form for all that may be asked: what both tell is one and the same; lists of at most 1000. -/
import Derived.Test.YtbnbbelkddbndaaRBlk
import Derived.Test.YtbnbbelkddbndaaChgO
import Derived.Test.YtbnbbelkddbndaaKept
import Derived.Test.YtbnbbelkddbndaaSameBl
import Derived.Test.YtbnbbelkddbndaaApI
namespace Go.Proofs.Ytbnbbelkddbndaa
open Go.RowKit Go.Maps
/-- What After tells: blocks, list, error. -/
def afN (n : Int) (l : List Cel) (ops : List Rec) (k : Int) : Int := if pmayB n l ops k then n else 0
def afL (n : Int) (l : List Cel) (ops : List Rec) (k : Int) (keep : List Bool) : List Cel := if pmayB n l ops k then refK l ops keep (rpUpto ops k.toNat) k.toNat else []
def afE (n : Int) (l : List Cel) (ops : List Rec) (k : Int) : Int := if pmayB n l ops k then 0 else 2
/-- What Block tells. -/
def bkB (n : Int) (l : List Cel) (ops : List Rec) (k q : Int) : Bool := pmayB n l ops k && decide (0 ≤ q) && decide (q < n)
def bkL (n : Int) (l : List Cel) (ops : List Rec) (k q : Int) : List (Nat → Int) := if bkB n l ops k q then rBlkL l ops k.toNat q else []
def bkE (n : Int) (l : List Cel) (ops : List Rec) (k q : Int) : Int := if bkB n l ops k q then 0 else 2
section
variable {n k : Int} {l : List Cel} {ops : List Rec}
theorem pm_nat (hm : pmayB n l ops k = true) : ∃ j : Nat, k = (j : Int) ∧ j ≤ ops.length := by
  obtain ⟨_, h1, h2, _⟩ := pmay_parts hm
  exact ⟨k.toNat, by omega, by omega⟩
theorem after_uni (p : Option Addr) (cap : Nat) (po : Option Addr) (co : Nat) (keep : List Bool) (ka : Option Addr) (kcap : Nat) (w : World) (hl : l.length ≤ 1000) (h : ImgAt w p l) (hlo : ops.length ≤ 1000) (ho : OpsAt w po ops) (hco : ops.length ≤ co)
    (hlk : keep.length ≤ 1000) (hk : BoolsAt w (.slice ka keep.length kcap) keep) (hcl : ∀ c ∈ l, Can c.2) (hcr : ∀ r ∈ ops, Can r.dat) :
    Calls Try.prog 21 #[.agg #[.int .i64 n, .slice p l.length cap], .slice po ops.length co, .int .i64 k, .slice ka keep.length kcap] w fun e w' => ∃ pa ca, e = .returned (.tuple #[.agg #[.int .i64 (afN n l ops k), .slice pa (afL n l ops k keep).length ca], .int .i64 (afE n l ops k)]) ∧
      w'.ownsRow w.heap.size 44 1025 (.slice pa (afL n l ops k keep).length ca) (afL n l ops k keep).length ((afL n l ops k keep).flatMap celRow) ∧ (afL n l ops k keep).length ≤ 1048576 ∧ Below w.heap.size w w' := by
  unfold afN afL afE
  cases hm : pmayB n l ops k
  · refine (after_bad n l p cap ops po co k _ w (by omega) h (by omega) ho ⟨_, _, _, rfl⟩ hm).mono ?_
    rintro e w' ⟨rfl, hb⟩
    exact ⟨none, 0, rfl, World.ownsRow_nil _ _ _ _, by simp, hb⟩
  · obtain ⟨j, rfl, hj⟩ := pm_nat hm
    obtain ⟨hmm, _, _, hop⟩ := pmay_parts hm
    obtain ⟨rs, ss⟩ := may_parts hmm hcl
    refine (after_ok n l p cap ops po co j keep ka kcap w (by omega) h (by omega) ho hco (by omega) hk hm hcl hcr).mono ?_
    rintro e w' ⟨g, l', rfl, hi, hg, hgs, hb⟩
    have hl' := refAfter_is hj rs ss (fun r hr => hop r (List.mem_of_mem_take hr)) hcl hcr hi
    have hln := img_len (by unfold mayB at hmm; simp at hmm; exact hmm.1) hi
    simp only [if_true, Int.toNat_natCast]
    rw [← hl']
    refine ⟨some ⟨g, 0, none⟩, l'.length, rfl, ⟨by rw [show l'.flatMap celRow = celCells l' from rfl, celCells_len], .inr ⟨g, l'.length, _, rfl, hgs, hg, Nat.le_refl _, by unfold maxLen; omega, by rw [List.size_toArray, celCells_len], ?_⟩⟩, hln, hb⟩
    rw [List.toList_toArray, ← celCells_len, List.take_length]
    rfl
theorem refAfter_uni (p : Option Addr) (cap : Nat) (po : Option Addr) (co : Nat) (keep : List Bool) (ka : Option Addr) (kcap : Nat) (w : World) (hl : l.length ≤ 1000) (h : ImgAt w p l) (hlo : ops.length ≤ 1000) (ho : OpsAt w po ops)
    (hlk : keep.length ≤ 1000) (hk : BoolsAt w (.slice ka keep.length kcap) keep) :
    Calls Try.prog 40 #[.agg #[.int .i64 n, .slice p l.length cap], .slice po ops.length co, .int .i64 k, .slice ka keep.length kcap] w fun e w' => ∃ pa ca, e = .returned (.tuple #[.agg #[.int .i64 (afN n l ops k), .slice pa (afL n l ops k keep).length ca], .int .i64 (afE n l ops k)]) ∧
      ImgAt w' pa (afL n l ops k keep) ∧ Below w.heap.size w w' := by
  unfold afN afL afE
  cases hm : pmayB n l ops k
  · refine (refAfter_bad n l p cap ops po co k ka keep.length kcap w (by omega) h (by omega) ho hm).mono ?_
    rintro e w' ⟨rfl, hb⟩
    exact ⟨none, 0, rfl, fun q => absurd q (by simp), hb⟩
  · obtain ⟨j, rfl, hj⟩ := pm_nat hm
    refine (refAfter_ok n l p cap ops po co j keep ka kcap w (by omega) h (by omega) ho (by omega) hk hm).mono ?_
    rintro e w' ⟨p', c', rfl, hi, hb⟩
    exact ⟨p', c', rfl, hi, hb⟩
variable {q : Int}
theorem block_uni (p : Option Addr) (cap : Nat) (po : Option Addr) (co : Nat) (w : World) (hl : l.length ≤ 1000) (h : ImgAt w p l) (hlo : ops.length ≤ 1000) (ho : OpsAt w po ops) (hco : ops.length ≤ co) (hcl : ∀ c ∈ l, Can c.2) (hcr : ∀ r ∈ ops, Can r.dat) :
    Calls Try.prog 24 #[.agg #[.int .i64 n, .slice p l.length cap], .slice po ops.length co, .int .i64 k, .int .i64 q] w fun e w' => ∃ v, e = .returned (.tuple #[v, .int .i64 (bkE n l ops k q)]) ∧ w'.ownsRow w.heap.size 40 1024 v (bkL n l ops k q).length ((bkL n l ops k q).flatMap enB) ∧ Below w.heap.size w w' := by
  unfold bkE bkL
  cases hbk : bkB n l ops k q
  · refine (block_bad n l p cap ops po co k q w (by omega) h (by omega) ho ?_).mono ?_
    · unfold bkB at hbk
      cases hm : pmayB n l ops k
      · exact .inl rfl
      · rw [hm] at hbk
        simp at hbk
        by_cases h0 : 0 ≤ q
        · exact .inr (.inr (hbk h0))
        · exact .inr (.inl (by omega))
    · rintro e w' ⟨rfl, hb⟩
      exact ⟨.slice none 0 0, rfl, World.ownsRow_nil _ _ _ _, hb⟩
  · unfold bkB at hbk
    simp at hbk
    obtain ⟨⟨hm, hq0⟩, hq1⟩ := hbk
    obtain ⟨j, rfl, hj⟩ := pm_nat hm
    obtain ⟨hmm, _, _, hop⟩ := pmay_parts hm
    obtain ⟨rs, ss⟩ := may_parts hmm hcl
    refine (block_ok n l p cap ops po co j q w (by omega) h (by omega) ho hco hm ⟨hq0, hq1⟩ hcl hcr).mono ?_
    rintro e w' ⟨v, rfl, hown, hb⟩
    simp only [if_true, Int.toNat_natCast]
    rw [rBlk_is (n := n) hj rs ss (fun r hr => hop r (List.mem_of_mem_take hr)) hcr]
    exact ⟨v, rfl, hown, hb⟩
theorem refBlock_uni (p : Option Addr) (cap : Nat) (po : Option Addr) (co : Nat) (w : World) (hl : l.length ≤ 1000) (h : ImgAt w p l) (hlo : ops.length ≤ 1000) (ho : OpsAt w po ops) :
    Calls Try.prog 43 #[.agg #[.int .i64 n, .slice p l.length cap], .slice po ops.length co, .int .i64 k, .int .i64 q] w fun e w' => ∃ v, e = .returned (.tuple #[v, .int .i64 (bkE n l ops k q)]) ∧ w'.ownsRow w.heap.size 40 1024 v (bkL n l ops k q).length ((bkL n l ops k q).flatMap enB) ∧ Below w.heap.size w w' := by
  unfold bkE bkL
  cases hbk : bkB n l ops k q
  · have key : Calls Try.prog 43 #[.agg #[.int .i64 n, .slice p l.length cap], .slice po ops.length co, .int .i64 k, .int .i64 q] w fun e w' => e = .returned (.tuple #[.slice none 0 0, .int .i64 2]) ∧ Below w.heap.size w w' := by
      cases hm : pmayB n l ops k
      · exact refBlock_bad n l p cap ops po co k q w (by omega) h (by omega) ho hm
      · obtain ⟨j, rfl, hj⟩ := pm_nat hm
        refine refBlock_out n l p cap ops po co j q w (by omega) h (by omega) ho hm ?_
        unfold bkB at hbk
        rw [hm] at hbk
        simp at hbk
        by_cases h0 : 0 ≤ q
        · exact .inr (hbk h0)
        · exact .inl (by omega)
    refine key.mono ?_
    rintro e w' ⟨rfl, hb⟩
    exact ⟨.slice none 0 0, rfl, World.ownsRow_nil _ _ _ _, hb⟩
  · unfold bkB at hbk
    simp at hbk
    obtain ⟨⟨hm, hq0⟩, hq1⟩ := hbk
    obtain ⟨j, rfl, hj⟩ := pm_nat hm
    refine (refBlock_ok n l p cap ops po co j q w (by omega) h (by omega) ho hm ⟨hq0, hq1⟩ hj (by have := refK_len l ops [] (rpUpto ops j) j; omega)).mono ?_
    rintro e w' ⟨v, rfl, hown, hb⟩
    exact ⟨v, rfl, hown, hb⟩
/-- What Pending tells. -/
def pdL (ops : List Rec) (k : Int) : List Int := rpUpto ops (upTo ops.length k)
theorem ints_fm (zs : List Int) : zs.map (Value.int .i64) = zs.flatMap enI := by
  induction zs with
  | nil => rfl
  | cons z t ih => rw [List.map_cons, ih]; rfl
theorem pending_uni (po : Option Addr) (co : Nat) (w : World) (hlo : ops.length ≤ 1000) (ho : OpsAt w po ops) (hco : ops.length ≤ co) :
    Calls Try.prog 27 #[.slice po ops.length co, .int .i64 k] w fun e w' => ∃ v : Value, e = .returned v ∧ w'.ownsRow w.heap.size 3 1 v (pdL ops k).length ((pdL ops k).flatMap enI) ∧ Below w.heap.size w w' := by
  refine (pending_any ops po co k w (by omega) ho hco).mono ?_
  rintro e w' ⟨v, rfl, hown, hb⟩
  unfold pdL
  rw [rp_eq ops _ (by unfold upTo; omega), ← ints_fm]
  exact ⟨v, rfl, hown, hb⟩
theorem refPending_uni (po : Option Addr) (co : Nat) (w : World) (hlo : ops.length ≤ 1000) (ho : OpsAt w po ops) :
    Calls Try.prog 45 #[.slice po ops.length co, .int .i64 k] w fun e w' => ∃ v : Value, e = .returned v ∧ w'.ownsRow w.heap.size 3 1 v (pdL ops k).length ((pdL ops k).flatMap enI) ∧ Below w.heap.size w w' := by
  refine (refPending_any ops po co k w (by omega) ho).mono ?_
  rintro e w' ⟨v, rfl, hown, hb⟩
  unfold pdL
  rw [← ints_fm]
  exact ⟨v, rfl, hown, hb⟩
variable {m : Int} {t : List Cel}
theorem changed_uni (p : Option Addr) (cp : Nat) (q : Option Addr) (cq : Nat) (w : World) (hls : l.length ≤ 1000) (hlt : t.length ≤ 1000) (hs : ImgAt w p l) (ht : ImgAt w q t) (hcs : ∀ c ∈ l, Can c.2) (hct : ∀ c ∈ t, Can c.2) :
    Calls Try.prog 28 #[.agg #[.int .i64 n, .slice p l.length cp], .agg #[.int .i64 m, .slice q t.length cq]] w fun e w' => ∃ v : Value, e = .returned v ∧ w'.ownsRow w.heap.size 3 1 v (rChgL n m l t).length ((rChgL n m l t).flatMap enI) ∧ Below w.heap.size w w' := by
  unfold rChgL
  cases ho : oneB n l m t
  · refine (changed_none n l p cp m t q cq w (by omega) (by omega) hs ht ho).mono ?_
    rintro e w' ⟨rfl, hb⟩
    have e0 : (mayB n l && mayB m t && decide (n = m)) = false := by
      unfold oneB at ho
      cases h1 : mayB n l <;> cases h2 : mayB m t <;> rw [h1, h2] at ho <;> simp at ho <;> simp [ho]
    rw [e0]
    exact ⟨_, rfl, World.ownsRow_nil _ _ _ _, hb⟩
  · unfold oneB at ho
    simp at ho
    obtain ⟨⟨hnm, h1⟩, h2⟩ := ho
    subst hnm
    refine (changed_own n l p cp t q cq w (by omega) (by omega) hs ht h1 h2 hcs hct).mono ?_
    rintro e w' ⟨g, cap, zs, rfl, hown, hp, hm, _, _, _, hb⟩
    have e1 : (mayB n l && mayB n t && decide (n = n)) = true := by rw [h1, h2]; simp
    rw [e1]
    simp only [if_true]
    rw [← chg_is h1 h2 hcs hct hp hm, ← ints_fm]
    exact ⟨_, rfl, hown, hb⟩
theorem refChanged_uni (p : Option Addr) (cp : Nat) (q : Option Addr) (cq : Nat) (w : World) (hls : l.length ≤ 1000) (hlt : t.length ≤ 1000) (hs : ImgAt w p l) (ht : ImgAt w q t) :
    Calls Try.prog 46 #[.agg #[.int .i64 n, .slice p l.length cp], .agg #[.int .i64 m, .slice q t.length cq]] w fun e w' => ∃ v : Value, e = .returned v ∧ w'.ownsRow w.heap.size 3 1 v (rChgL n m l t).length ((rChgL n m l t).flatMap enI) ∧ Below w.heap.size w w' := by
  refine (refChanged_any n m l t p q cp cq w (by omega) (by omega) hs ht).mono ?_
  rintro e w' ⟨v, rfl, hown, hb⟩
  rw [← ints_fm]
  exact ⟨v, rfl, hown, hb⟩
theorem same_is : sameI n l m t = rSameV n m l t := by
  unfold sameI rSameV oneB
  by_cases h : n = m
  · simp [h]
  · have : (n == m) = false := by simpa using h
    simp [h]
theorem same_self : sameI n l n l = decide (wholeE n l = 0) := by
  unfold sameI oneB wholeE
  rw [celsB_self]
  cases mayB n l <;> simp
end
end Go.Proofs.Ytbnbbelkddbndaa
