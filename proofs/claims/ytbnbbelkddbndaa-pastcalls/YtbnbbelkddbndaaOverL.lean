/- Lists that are written over, element by element, and what stays beside them. -/
import Derived.Test.YtbnbbelkddbndaaAsked
import Derived.Test.YtbnbbelkddbndaaTree
namespace Go.Proofs.Ytbnbbelkddbndaa
open Go.RowKit Go.Maps
section
variable {α : Type} {en : α → List Value} {sz : Nat}
theorem fm_put (hr : ∀ x, (en x).length = sz) : ∀ (l : List α) (i j : Nat) (x x' : α) (u : Value), l[i]? = some x → j < sz → en x' = (en x).set j u → (l.flatMap en).set (i * sz + j) u = (l.set i x').flatMap en
  | [], i, j, x, x', u, h, _, _ => by simp at h
  | y :: t, 0, j, x, x', u, h, hj, he => by
    have h' : y = x := by simpa using h
    subst h'
    rw [List.set_cons_zero, List.flatMap_cons, List.flatMap_cons, Nat.zero_mul, Nat.zero_add, List.set_append_left _ _ (by rw [hr]; exact hj), he]
  | y :: t, i + 1, j, x, x', u, h, hj, he => by
    have h' : t[i]? = some x := by simpa using h
    have e : (i + 1) * sz + j = sz + (i * sz + j) := by rw [Nat.add_mul, Nat.one_mul]; omega
    rw [List.set_cons_succ, List.flatMap_cons, List.flatMap_cons, e, List.set_append_right _ _ (by rw [hr]; omega), hr, Nat.add_sub_cancel_left, fm_put hr t i j x x' u h' hj he]
theorem own_cell (hr : ∀ x, (en x).length = sz) {B e g n c i j : Nat} {w : World} {l : List α} {x x' : α} {u : Value} (h : w.ownsRow B e sz (.slice (some ⟨g, 0, none⟩) n c) n (l.flatMap en)) (hx : l[i]? = some x) (hj : j < sz) (he : en x' = (en x).set j u) :
    (w.setCell ⟨g, i * sz + j, none⟩ u).ownsRow B e sz (.slice (some ⟨g, 0, none⟩) n c) n ((l.set i x').flatMap en) := by
  have := (World.ownsRow.stored h (i * sz + j) u).1
  rwa [fm_put hr l i j x x' u hx hj he] at this
theorem lies_prefix {w : World} {p : Option Addr} {l r : List α} (h : LiesE en sz w p (l ++ r)) : LiesE en sz w p l := fun h0 => by
  obtain ⟨b, off, hp, hlt, hc⟩ := h (by rw [List.length_append]; omega)
  exact ⟨b, off, hp, hlt, fun k x hx => hc k x (by rw [List.getElem?_append_left (List.getElem?_eq_some_iff.1 hx).1]; exact hx)⟩
end
theorem box_ne {w : World} {g g' t e : Nat} {cs cur : Array Value} (h : w.heap[g]? = some (.cells cs t)) (h' : w.heap[g']? = some (.cells cur e)) (hne : t ≠ e) : g ≠ g' := fun q => by
  subst q
  rw [h] at h'
  injection h' with h'
  injection h' with _ h'
  exact hne h'
theorem own_heap {w : World} {B e sz g n c : Nat} {xs : List Value} (h : w.ownsRow B e sz (.slice (some ⟨g, 0, none⟩) n c) n xs) : B ≤ g ∧ n ≤ c ∧ ∃ cur, w.heap[g]? = some (.cells cur e) := by
  rcases h.2 with ⟨q, _⟩ | ⟨g', c', cur, q, hB, hh, hn, _⟩
  · cases q
  · injection q with q1 q2 q3
    injection q1 with q1
    injection q1 with q1
    subst q1; subst q3
    exact ⟨hB, hn, cur, hh⟩
/-- One thing done, written over. -/
def newR (q : Int) (i : Nat) (r : Rec) : Rec := ⟨1 + (i : Int) % 3 / 2, IntKind.i64.wrap (q + (i : Int)) % 3, r.dat⟩
def ovO (q : Int) (l : List Rec) : Nat → List Rec
  | 0 => l
  | i + 1 => match (ovO q l i)[i]? with
    | some r => (ovO q l i).set i (newR q i r)
    | none => ovO q l i
def ovT (l : List Bool) : Nat → List Bool
  | 0 => l
  | i + 1 => match (ovT l i)[i]? with
    | some b => (ovT l i).set i (!b)
    | none => ovT l i
def newC (c : Cel) : Cel := (c.1, upd c.2 7 ((c.2 7 + 1) % 256))
def ovH (l : List Cel) : Nat → List Cel
  | 0 => l
  | i + 1 => match (ovH l i)[i]? with
    | some c => (ovH l i).set i (newC c)
    | none => ovH l i
theorem ovO_at {q : Int} {l : List Rec} {i : Nat} {r : Rec} (h : (ovO q l i)[i]? = some r) : ovO q l (i + 1) = (ovO q l i).set i (newR q i r) := by
  show (match (ovO q l i)[i]? with | some r => (ovO q l i).set i (newR q i r) | none => ovO q l i) = _
  rw [h]
theorem ovT_at {l : List Bool} {i : Nat} {r : Bool} (h : (ovT l i)[i]? = some r) : ovT l (i + 1) = (ovT l i).set i (!r) := by
  show (match (ovT l i)[i]? with | some r => (ovT l i).set i (!r) | none => ovT l i) = _
  rw [h]
theorem ovH_at {l : List Cel} {i : Nat} {r : Cel} (h : (ovH l i)[i]? = some r) : ovH l (i + 1) = (ovH l i).set i (newC r) := by
  show (match (ovH l i)[i]? with | some r => (ovH l i).set i (newC r) | none => ovH l i) = _
  rw [h]
theorem ovO_len (q : Int) (l : List Rec) : ∀ i, (ovO q l i).length = l.length
  | 0 => rfl
  | i + 1 => by
    show (match (ovO q l i)[i]? with | some r => (ovO q l i).set i (newR q i r) | none => ovO q l i).length = _
    have := ovO_len q l i
    split <;> simp [this]
theorem ovT_len (l : List Bool) : ∀ i, (ovT l i).length = l.length
  | 0 => rfl
  | i + 1 => by
    show (match (ovT l i)[i]? with | some r => (ovT l i).set i (!r) | none => ovT l i).length = _
    have := ovT_len l i
    split <;> simp [this]
theorem ovH_len (l : List Cel) : ∀ i, (ovH l i).length = l.length
  | 0 => rfl
  | i + 1 => by
    show (match (ovH l i)[i]? with | some r => (ovH l i).set i (newC r) | none => ovH l i).length = _
    have := ovH_len l i
    split <;> simp [this]
theorem ovO_can {q : Int} {l : List Rec} (h : ∀ r ∈ l, Can r.dat) : ∀ i, ∀ r ∈ ovO q l i, Can r.dat
  | 0 => h
  | i + 1 => fun r hr => by
    have ih := ovO_can h i (q := q)
    cases hg : (ovO q l i)[i]? with
    | none =>
      have e : ovO q l (i + 1) = ovO q l i := by
        show (match (ovO q l i)[i]? with | some r => (ovO q l i).set i (newR q i r) | none => ovO q l i) = _
        rw [hg]
      rw [e] at hr
      exact ih r hr
    | some x =>
      rw [ovO_at hg] at hr
      rcases List.mem_or_eq_of_mem_set hr with q1 | q1
      · exact ih r q1
      · rw [q1]
        exact ih x (List.mem_of_getElem? hg)
theorem ovH_can {l : List Cel} (h : ∀ c ∈ l, Can c.2) : ∀ i, ∀ c ∈ ovH l i, Can c.2
  | 0 => h
  | i + 1 => fun r hr => by
    have ih := ovH_can h i
    cases hg : (ovH l i)[i]? with
    | none =>
      have e : ovH l (i + 1) = ovH l i := by
        show (match (ovH l i)[i]? with | some r => (ovH l i).set i (newC r) | none => ovH l i) = _
        rw [hg]
      rw [e] at hr
      exact ih r hr
    | some x =>
      rw [ovH_at hg] at hr
      rcases List.mem_or_eq_of_mem_set hr with q1 | q1
      · exact ih r q1
      · rw [q1]
        have hx := ih x (List.mem_of_getElem? hg)
        refine ⟨fun j => ?_, fun j hj => ?_⟩
        · unfold newC upd
          dsimp only
          split
          · omega
          · exact hx.1 j
        · unfold newC upd
          dsimp only
          rw [if_neg (by omega)]
          exact hx.2 j hj
/-- All that stands beside the law's lists. -/
structure PC (w : World) (g5 c5 g6 c6 g7 c7 g8 g9 : Nat) (xs ys zs os : Array Value) (D : List Cel) (E : List Rec) (F : List Bool) (wx : World) : Prop where
  bel : Below w.heap.size w wx
  b2 : wx.heap[w.heap.size]? = some (.cells xs 28)
  b3 : wx.heap[w.heap.size + 1]? = some (.cells ys 24)
  b8 : wx.heap[g8]? = some (.cells zs 24)
  b9 : wx.heap[g9]? = some (.cells os 28)
  r5 : wx.ownsRow w.heap.size 44 1025 (.slice (some ⟨g5, 0, none⟩) D.length c5) D.length (D.flatMap celRow)
  r6 : wx.ownsRow w.heap.size 42 1026 (.slice (some ⟨g6, 0, none⟩) E.length c6) E.length (E.flatMap recCells)
  r7 : wx.ownsRow w.heap.size 4 1 (.slice (some ⟨g7, 0, none⟩) F.length c7) F.length (F.flatMap enT)
section
variable {w wx wy : World} {g5 c5 g6 c6 g7 c7 g8 g9 : Nat} {xs ys zs os : Array Value} {D : List Cel} {E : List Rec} {F : List Bool}
theorem PC.later (h : PC w g5 c5 g6 c6 g7 c7 g8 g9 xs ys zs os D E F wx) (hb : Below wx.heap.size wx wy) : PC w g5 c5 g6 c6 g7 c7 g8 g9 xs ys zs os D E F wy :=
  ⟨below_next h.bel hb, heap_kept h.b2 hb, heap_kept h.b3 hb, heap_kept h.b8 hb, heap_kept h.b9 hb, own_later h.r5 hb, own_later h.r6 hb, own_later h.r7 hb⟩
theorem PC.set6 (h : PC w g5 c5 g6 c6 g7 c7 g8 g9 xs ys zs os D E F wx) {i j : Nat} {x x' : Rec} {u : Value} (hx : E[i]? = some x) (hj : j < 1026) (he : recCells x' = (recCells x).set j u) : PC w g5 c5 g6 c6 g7 c7 g8 g9 xs ys zs os D (E.set i x') F (wx.setCell ⟨g6, i * 1026 + j, none⟩ u) := by
  obtain ⟨hB, _, cur, hg⟩ := own_heap h.r6
  have hf := Fr.setCell wx g6 (i * 1026 + j) u
  refine ⟨h.bel.setCell (p := ⟨g6, i * 1026 + j, none⟩) hB u, ?_, ?_, ?_, ?_, ?_, ?_, ?_⟩
  · rw [Below.heap_setCell wx _ u _ (box_ne h.b2 hg (by decide))]; exact h.b2
  · rw [Below.heap_setCell wx _ u _ (box_ne h.b3 hg (by decide))]; exact h.b3
  · rw [Below.heap_setCell wx _ u _ (box_ne h.b8 hg (by decide))]; exact h.b8
  · rw [Below.heap_setCell wx _ u _ (box_ne h.b9 hg (by decide))]; exact h.b9
  · exact own_frame h.r5 hf fun k hk q => rows_apart (e' := 42) (by decide) h.r5 hk h.r6 (by rw [q]; rfl)
  · rw [List.length_set]; exact own_cell recCells_len h.r6 hx hj he
  · exact own_frame h.r7 hf fun k hk q => rows_apart (e' := 42) (by decide) h.r7 hk h.r6 (by rw [q]; rfl)
theorem PC.set7 (h : PC w g5 c5 g6 c6 g7 c7 g8 g9 xs ys zs os D E F wx) {i : Nat} {x : Bool} (b : Bool) (hx : F[i]? = some x) : PC w g5 c5 g6 c6 g7 c7 g8 g9 xs ys zs os D E (F.set i b) (wx.setCell ⟨g7, i, none⟩ (.bool b)) := by
  obtain ⟨hB, _, cur, hg⟩ := own_heap h.r7
  have hf := Fr.setCell wx g7 i (.bool b)
  refine ⟨h.bel.setCell (p := ⟨g7, i, none⟩) hB _, ?_, ?_, ?_, ?_, ?_, ?_, ?_⟩
  · rw [Below.heap_setCell wx _ _ _ (box_ne h.b2 hg (by decide))]; exact h.b2
  · rw [Below.heap_setCell wx _ _ _ (box_ne h.b3 hg (by decide))]; exact h.b3
  · rw [Below.heap_setCell wx _ _ _ (box_ne h.b8 hg (by decide))]; exact h.b8
  · rw [Below.heap_setCell wx _ _ _ (box_ne h.b9 hg (by decide))]; exact h.b9
  · exact own_frame h.r5 hf fun k hk q => rows_apart (e' := 4) (by decide) h.r5 hk h.r7 (by rw [q]; rfl)
  · exact own_frame h.r6 hf fun k hk q => rows_apart (e' := 4) (by decide) h.r6 hk h.r7 (by rw [q]; rfl)
  · have := own_cell (x' := b) (j := 0) (u := .bool b) lenT h.r7 hx (by omega) rfl
    rw [Nat.mul_one, Nat.add_zero] at this
    rw [List.length_set]
    exact this
theorem PC.set5 (h : PC w g5 c5 g6 c6 g7 c7 g8 g9 xs ys zs os D E F wx) {i j : Nat} {x x' : Cel} {u : Value} (hx : D[i]? = some x) (hj : j < 1025) (he : celRow x' = (celRow x).set j u) : PC w g5 c5 g6 c6 g7 c7 g8 g9 xs ys zs os (D.set i x') E F (wx.setCell ⟨g5, i * 1025 + j, none⟩ u) := by
  obtain ⟨hB, _, cur, hg⟩ := own_heap h.r5
  have hf := Fr.setCell wx g5 (i * 1025 + j) u
  refine ⟨h.bel.setCell (p := ⟨g5, i * 1025 + j, none⟩) hB u, ?_, ?_, ?_, ?_, ?_, ?_, ?_⟩
  · rw [Below.heap_setCell wx _ u _ (box_ne h.b2 hg (by decide))]; exact h.b2
  · rw [Below.heap_setCell wx _ u _ (box_ne h.b3 hg (by decide))]; exact h.b3
  · rw [Below.heap_setCell wx _ u _ (box_ne h.b8 hg (by decide))]; exact h.b8
  · rw [Below.heap_setCell wx _ u _ (box_ne h.b9 hg (by decide))]; exact h.b9
  · rw [List.length_set]; exact own_cell celRow_len h.r5 hx hj he
  · exact own_frame h.r6 hf fun k hk q => rows_apart (e' := 44) (by decide) h.r6 hk h.r5 (by rw [q]; rfl)
  · exact own_frame h.r7 hf fun k hk q => rows_apart (e' := 44) (by decide) h.r7 hk h.r5 (by rw [q]; rfl)
end
theorem rec_pos (r : Rec) (p : Int) : recCells ⟨r.kind, p, r.dat⟩ = (recCells r).set 1 (.int .i64 p) := by
  unfold recCells
  simp
theorem rec_kind (r : Rec) (k : Int) : recCells ⟨k, r.pos, r.dat⟩ = (recCells r).set 0 (.int .u8 k) := by
  unfold recCells
  simp
theorem cel_seven (c : Cel) : celRow (newC c) = (celRow c).set 8 (.int .u8 ((c.2 7 + 1) % 256)) := by
  unfold newC
  generalize (c.2 7 + 1) % 256 = v
  have h := congrArg Array.toList (blk_set c.2 7 v)
  unfold celRow
  dsimp only
  rw [List.set_cons_succ, ← h, Array.toList_setIfInBounds]
end Go.Proofs.Ytbnbbelkddbndaa
