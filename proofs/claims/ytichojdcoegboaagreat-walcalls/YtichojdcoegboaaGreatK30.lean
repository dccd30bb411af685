/- The document's log: what a commit does to the disk, one thing behind the other; the header that is filled on the way as a part; no condition. -/
import Derived.Test.YtichojdcoegboaaGreatK27
import Derived.Test.YtichojdcoegboaaGreatK28
import Derived.Test.YtichojdcoegboaaGreatK29
namespace Go.Proofs.YtichojdcoegboaaGreatW
open Go.RowKit Go.Maps
def gLog : Int → List Cel → List (Option Cel)
 | _, [] => []
 | a, c :: t => some (a, c.2) :: gLog (a + 1) t
theorem gLog_append : ∀ (g h : List Cel) (a : Int), gLog a (g ++ h) = gLog a g ++ gLog (a + g.length) h
 | [], h, a => by simp [gLog]
 | c :: g, h, a => by
  have := gLog_append g h (a + 1)
  simp only [List.cons_append, gLog, List.length_cons, Int.natCast_add, Int.natCast_one]
  rw [this, show a + 1 + (g.length : Int) = a + ((g.length : Int) + 1) by omega]
def rcOps (y : RL) : List (Option Cel) := gLog 2 y.grp ++ (none :: some (1, H.headF (y.grp.map (·.1))) :: none :: (y.grp.map some ++ [none, some (1, nought), none]))
theorem rrunE_append : ∀ (a b : List (Option Cel)) (t : RSt), rrunE (a ++ b) t = if rrunE a t = 0 then rrunE b (rrunV a t) else rrunE a t
 | [], b, t => by simp [rrunE, rrunV]
 | o :: r, b, t => by
  show (if rdopE t o = 0 then rrunE (r ++ b) (rdopV t o) else rdopE t o) = if (if rdopE t o = 0 then rrunE r (rdopV t o) else rdopE t o) = 0 then rrunE b (if rdopE t o = 0 then rrunV r (rdopV t o) else rdopV t o) else (if rdopE t o = 0 then rrunE r (rdopV t o) else rdopE t o)
  by_cases h : rdopE t o = 0
  ·simp only [if_pos h]; exact rrunE_append r b _
  ·simp only [if_neg h]
theorem rrunV_append : ∀ (a b : List (Option Cel)) (t : RSt), rrunV (a ++ b) t = if rrunE a t = 0 then rrunV b (rrunV a t) else rrunV a t
 | [], b, t => by simp [rrunE, rrunV]
 | o :: r, b, t => by
  show (if rdopE t o = 0 then rrunV (r ++ b) (rdopV t o) else rdopV t o) = if (if rdopE t o = 0 then rrunE r (rdopV t o) else rdopE t o) = 0 then rrunV b (if rdopE t o = 0 then rrunV r (rdopV t o) else rdopV t o) else (if rdopE t o = 0 then rrunV r (rdopV t o) else rdopV t o)
  by_cases h : rdopE t o = 0
  ·simp only [if_pos h]; exact rrunV_append r b _
  ·simp only [if_neg h]
theorem rrun_snoc {a : List (Option Cel)} {o : Option Cel} {t : RSt} (h : rrunE a t = 0) : rrunE (a ++ [o]) t = rdopE (rrunV a t) o ∧ rrunV (a ++ [o]) t = rdopV (rrunV a t) o := by
 rw [rrunE_append, rrunV_append, if_pos h, if_pos h]
 generalize rrunV a t = t'
 show (if rdopE t' o = 0 then 0 else rdopE t' o) = rdopE t' o ∧ (if rdopE t' o = 0 then rdopV t' o else rdopV t' o) = rdopV t' o
 by_cases h0 : rdopE t' o = 0
 ·rw [if_pos h0, if_pos h0]; exact ⟨h0.symm, rfl⟩
 ·rw [if_neg h0, if_neg h0]; exact ⟨rfl, rfl⟩
theorem rrun_ended {a b : List (Option Cel)} {t : RSt} (h : rrunE a t ≠ 0) : rrunE (a ++ b) t = rrunE a t ∧ rrunV (a ++ b) t = rrunV a t := by
 rw [rrunE_append, rrunV_append, if_neg h, if_neg h]; exact ⟨rfl, rfl⟩
structure HdAt (W : World) (B gh : Nat) (v : Value) (ts : List Int) : Prop where
 row : W.heap[gh]? = some (.cells #[v] 129)
 own : H.OwnZ W B v ts
 base : B ≤ gh
def hdP (B gh : Nat) (v : Value) (ts : List Int) : Part := ⟨fun k => k = gh ∨ v.ownBlock = some k, fun W => HdAt W B gh v ts⟩
theorem hdP_good (B gh : Nat) (v : Value) (ts : List Int) : (hdP B gh v ts).Good := fun _ _ h _ hb => ⟨(hb _ (.inl rfl)).trans h.row, ownsRow_kept0 h.own fun k hk => hb k (.inr hk), h.base⟩
section
variable {w W W' V : World} {q r : Nat} {y y' : RL} {u u' : RSt} {l : List Part} {B gh : Nat} {v : Value} {ts : List Int}
theorem HdAt.cell (h : HdAt W B gh v ts) : W.cell? ⟨gh, 0, none⟩ = some v := Joins.cell_of_block h.row 0
theorem HdAt.gv (h : HdAt W B gh v ts) : v.ownBlock ≠ some gh := own_ne (e := 3) (sz := 1) h.own h.row (by decide)
theorem HdAt.lt (h : HdAt W B gh v ts) : gh < W.heap.size := (Array.getElem?_eq_some_iff.1 h.row).1
theorem HdAt.push (h : HdAt V B gh v ts) (hl : ts.length ≤ 10000000) (x : Int) :
  ∃ v' W5, (Builtin.append_ #[90, 90] 90 #[v, .slice (some ⟨V.heap.size, 0, none⟩) 1 1]).run Tryz.prog (V.alloc (.cells #[.int .i64 x] 3)) = .ok v' W5 ∧ W5.heap[gh]? = some (.cells #[v] 129) ∧ Fr (fun i => v.ownBlock = some i) V W5 ∧ (∀ k, v'.ownBlock = some k → v.ownBlock = some k ∨ V.heap.size ≤ k) ∧ HdAt (W5.setCell ⟨gh, 0, none⟩ v') B gh v' (ts ++ [x]) := by
 obtain ⟨i0, hi0, hz0, hz1, hz2⟩ := info_parts info3t
 have hw : V.ownsRow B 3 1 v ts.length (ts.flatMap intRow) := by rw [int_rows]; exact h.own
 obtain ⟨v', W5, hr, ho, hb, hF, hor⟩ := own_pushL intRow_len intRow_one Tryz.underlying90 hi0 hz0 hz1 hz2 rfl (by omega) (by omega) hw (by have := h.base; have := h.lt; omega) (by omega) x 90
 have hrow : W5.heap[gh]? = some (.cells #[v] 129) := (hF.block gh h.lt h.gv).trans h.row
 rw [int_rows] at ho
 refine ⟨v', W5, hr, hrow, hF, hor, ?_, ?_, h.base⟩
 ·rw [heap_setCell_same W5 gh 0 _ 129 v' hrow]; rfl
 ·exact ownsRow_setCell_other ho (a := ⟨gh, 0, none⟩) (own_ne (e := 3) (sz := 1) ho hrow (by decide)) v'
end
end Go.Proofs.YtichojdcoegboaaGreatW
