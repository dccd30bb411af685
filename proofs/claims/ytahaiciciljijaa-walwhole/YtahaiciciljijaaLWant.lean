/- What a commit leaves in the history, and a group that grows write by write; plain. -/
import Derived.Test.YtahaiciciljijaaLSide
namespace Go.Proofs.Ytahaiciciljijaa
open Go.RowKit Go.Maps
variable {w W W' : World} {g d : Nat} {x : LSt} {s : CSt} {t : St} {ks : List (Nat × Obj)} {book : Int → Nat → Int}
def recOf : Option Cel → Rec
  | some c => wrec c
  | none => ⟨2, 0, nought⟩
theorem dop_ops {o : Option Cel} (h : dopE t o = 0) : (dopV t o).ops = t.ops ++ [recOf o] := by
  cases o with
  | none =>
    have h' : barE t = 0 := h
    show (barV t).ops = _
    unfold barE at h'
    unfold barV
    by_cases h1 : t.stopped = true
    · rw [if_pos h1] at h'
      exact absurd h' (by decide)
    · rw [if_neg h1] at h' ⊢
      by_cases h2 : lets t = true
      · rw [if_pos h2]
        exact barS_ops t
      · rw [if_neg h2] at h'
        exact absurd h' (by decide)
  | some c =>
    have h' : writeE t c.1 = 0 := h
    show (writeV t c.1 c.2).ops = _
    unfold writeE at h'
    unfold writeV
    by_cases h1 : refV t c.1 = 0
    · rw [if_pos h1] at h' ⊢
      by_cases h2 : lets t = true
      · rw [if_pos h2]
        exact writeS_ops t c.1 c.2
      · rw [if_neg h2] at h'
        exact absurd h' (by decide)
    · rw [if_neg h1] at h'
      exact absurd h' h1
theorem run_ops : ∀ (l : List (Option Cel)) (t : St), runE l t = 0 → (runV l t).ops = t.ops ++ l.map recOf
  | [], t, _ => by simp [runV]
  | o :: r, t, h => by
    unfold runE at h
    unfold runV
    by_cases h0 : dopE t o = 0
    · rw [if_pos h0] at h ⊢
      rw [run_ops r _ h, dop_ops h0]
      simp
    · rw [if_neg h0] at h
      exact absurd h h0
def wantA (data : List (Nat → Int)) (n : Nat) : List Rec := (List.range n).map fun (j : Nat) => ⟨1, 2 + (j : Int), data.getD j nought⟩
def wantC (order : List Int) (data : List (Nat → Int)) (n : Nat) : List Rec := (List.range n).map fun j => ⟨1, order.getD j 0, data.getD j nought⟩
theorem wantA_succ {data : List (Nat → Int)} {n : Nat} {f : Nat → Int} (h : data[n]? = some f) : wantA data (n + 1) = wantA data n ++ [⟨1, 2 + (n : Int), f⟩] := by
  unfold wantA
  rw [List.range_succ, List.map_append]
  simp [List.getD, h]
theorem wantC_succ {order : List Int} {data : List (Nat → Int)} {n : Nat} {k : Int} {f : Nat → Int} (h : order[n]? = some k) (hd : data[n]? = some f) : wantC order data (n + 1) = wantC order data n ++ [⟨1, k, f⟩] := by
  unfold wantC
  rw [List.range_succ, List.map_append]
  simp [List.getD, h, hd]
theorem wantC_all : ∀ (order : List Int), wantC order (order.map book) order.length = order.map fun k => ⟨1, k, book k⟩ := by
  intro order
  apply List.ext_getElem?
  intro j
  unfold wantC
  rw [List.getElem?_map, List.getElem?_map]
  by_cases hj : j < order.length
  · rw [List.getElem?_range hj, List.getElem?_eq_getElem hj]
    simp [List.getD, List.getElem?_eq_getElem hj]
  · rw [List.getElem?_eq_none (by simp; omega), List.getElem?_eq_none (by omega)]
    rfl
theorem wantA_all (order : List Int) : (lgOps book order order.length).map recOf = wantA (order.map book) order.length := by
  apply List.ext_getElem?
  intro j
  unfold lgOps wantA
  rw [List.map_map, List.getElem?_map, List.getElem?_map]
  by_cases hj : j < order.length
  · rw [List.getElem?_range hj]
    simp [List.getD, List.getElem?_eq_getElem hj, recOf, wrec]
  · rw [List.getElem?_eq_none (by simp; omega)]
    rfl
/-- All that a commit does, in its order. -/
def wantAll (order : List Int) (data : List (Nat → Int)) : List Rec :=
  ((wantA data order.length ++ [⟨2, 0, nought⟩, ⟨1, 1, H.headF order⟩, ⟨2, 0, nought⟩]) ++ wantC order data order.length) ++ [⟨2, 0, nought⟩, ⟨1, 1, nought⟩, ⟨2, 0, nought⟩]
theorem cmt_want (h : runE (cmtOps x book) t = 0) (h0 : t.ops = []) : (runV (cmtOps x book) t).ops = wantAll x.blocks (x.blocks.map book) := by
  rw [run_ops _ _ h, h0]
  unfold cmtOps opsA opsB opsC opsD wantAll
  rw [wantC_all]
  simp [wantA_all, putOps, recOf, wrec]
/-- A log that has been begun with a reservation, the blocks of order changed by the step. -/
def grpX (b l i r : Int) (order : List Int) : LSt := ⟨b, l, i, 1, order, fun y => if y ∈ order then some 0 else none, true, r - order.length, 0, 0⟩
theorem grp_begun (b l i r : Int) : { newX b l i 1 with opn := true, room := r } = grpX b l i r [] := by
  unfold newX grpX
  simp
theorem grp_by (b l i r k : Int) (order : List Int) : byB (grpX b l i r order) k 0 = decide (k ∈ order) := by
  unfold byB grpX
  by_cases h : k ∈ order <;> simp [h]
theorem grp_more {b l i r k : Int} {order : List Int} (h : k ∉ order) : { changeL (grpX b l i r order) k 0 with room := (grpX b l i r order).room - 1 } = grpX b l i r (order ++ [k]) := by
  unfold changeL grpX
  simp only [h, if_false, if_true]
  congr 1
  · funext y
    by_cases e : y = k
    · simp [e]
    · simp [e]
  · simp
    omega
/-- The blocks that a step has changed, behind one write more. -/
def ordV (order : List Int) (k : Int) : List Int := if k ∈ order then order else order ++ [k]
theorem grp_write {b l i r k : Int} {order : List Int} {f : Nat → Int} (h : LogI w W g d (grpX b l i r order) t book ks) (hc : claimedV t 1 = true) (hf : Can f) (hk : 1 + l ≤ k ∧ k < b) (hr : (order.length : Int) < r) :
    Calls Try.prog 30 #[ptr g, .int .i64 k, .agg (blk f)] W fun e W' => e = .returned (.int .i64 0) ∧ LogI w W' g d (grpX b l i r (ordV order k)) t (fun j => if j = k then f else book j) ks := by
  have hre : refL (grpX b l i r order) t true = 0 := by
    unfold refL
    rw [if_pos (by exact hc), if_pos (by rfl)]
  unfold ordV
  by_cases hm : k ∈ order
  · rw [if_pos hm]
    exact h.rewrite hf hre hk (by rw [show (grpX b l i r order).steps = 0 from rfl, grp_by]; exact decide_eq_true hm)
  · rw [if_neg hm, ← grp_more hm]
    exact h.write hf hre hk (by rw [show (grpX b l i r order).steps = 0 from rfl, grp_by]; exact decide_eq_false hm) (by show r - (order.length : Int) ≠ 0; omega)
/-- What the changed blocks hold, behind one write more. -/
theorem ord_old {order : List Int} {k : Int} {j : Nat} {f : Nat → Int} (hn : order.Nodup) (hj : order[j]? = some k) : ordV order k = order ∧ (ordV order k).map (fun y => if y = k then f else book y) = (order.map book).set j f := by
  obtain ⟨hl, rfl⟩ := List.getElem?_eq_some_iff.1 hj
  have hm : order[j] ∈ order := List.getElem_mem _
  have e : ordV order order[j] = order := by unfold ordV; rw [if_pos hm]
  refine ⟨e, ?_⟩
  rw [e]
  apply List.ext_getElem?
  intro q
  rw [List.getElem?_map, List.getElem?_set, List.length_map]
  by_cases hq : q < order.length
  · rw [List.getElem?_eq_getElem hq, Option.map_some]
    by_cases hjq : j = q
    · subst hjq
      rw [if_pos rfl, if_pos rfl, if_pos hq]
    · have hne : order[q] ≠ order[j] := by
        rcases Nat.lt_or_gt_of_ne hjq with h | h
        · exact fun e => List.pairwise_iff_getElem.1 hn j q hl hq h e.symm
        · exact List.pairwise_iff_getElem.1 hn q j hq hl h
      rw [if_neg hjq, List.getElem?_map, List.getElem?_eq_getElem hq, Option.map_some, if_neg fun h => hne h]
  · rw [List.getElem?_eq_none (by omega), Option.map_none]
    by_cases hjq : j = q
    · omega
    · rw [if_neg hjq, List.getElem?_map, List.getElem?_eq_none (by omega), Option.map_none]
theorem ord_new {order : List Int} {k : Int} {f : Nat → Int} (hm : k ∉ order) : ordV order k = order ++ [k] ∧ (ordV order k).map (fun y => if y = k then f else book y) = (order.map book ++ [nought]).set order.length f := by
  have e : ordV order k = order ++ [k] := by unfold ordV; rw [if_neg hm]
  refine ⟨e, ?_⟩
  rw [e, List.map_append, List.set_append_right _ _ (by simp), List.length_map, Nat.sub_self]
  congr 1
  · exact List.map_congr_left fun y hy => if_neg (fun q : y = k => hm (by rw [← q]; exact hy))
  · simp
end Go.Proofs.Ytahaiciciljijaa
