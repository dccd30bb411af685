/- Lists of anything in memory of their own: written over, gone on with, told apart; what holds of them along the way. -/
import Derived.Test.YtadljgaadjajdaaBase
import Derived.Test.YtadljgaadjajdaaOrd
namespace Go.Proofs.Ytadljgaadjajdaa
open Go.RowKit Go.Maps
theorem wpOrd_do {ops : Array Oper} {Q : Exit → Act → World → Prop} {S : World → Prop} {r : List (Bool × Oper)} {o : Oper} {a : Act} {W W' : World} (hw : Region.wanted o (yielded ops a.tmps) = true) (hr : (execOp a.eval o).run Try.prog W = .ok .skip W') (hS : S W') (h : wpOrd Try.prog ops Q S r (a.put o.dst undef) W') : wpOrd Try.prog ops Q S ((false, o) :: r) a W := by
  simp only [wpOrd, hw, if_true]
  unfold Oper.wp
  rw [hr]
  exact ⟨hS, h⟩
theorem wpList_exec {ops : Array Oper} {rest : List Oper} {o : Oper} {a : Act} {w w' : World} {Q : Exit → Act → World → Prop} {v : Value} (hw : Region.wanted o (yielded ops a.tmps) = true) (hr : (execOp a.eval o).run Try.prog w = .ok (.value v) w')
    (h : wpList Try.prog ops Q rest (a.put o.dst v) w') : wpList Try.prog ops Q (o :: rest) a w := BigFrame.wpList_want hw fun _ hK => by
  unfold Oper.wp
  rw [hr]
  exact hK _ _ h
theorem exec_mvR {o : Oper} {a : Act} {W : World} {x : Operand} {v : Value} (ho : o.op = .move x) (hx : a.eval x = v) : (execOp a.eval o).run Try.prog W = .ok (.value v) W := by simp [execOp, ho, hx]
theorem Fr.drew {T : Nat → Prop} (w : World) : Fr T w w.drew := ⟨rfl, rfl, rfl, Nat.le_refl _, fun _ _ _ => rfl⟩
theorem Hid.mk' {p : Prop} (h : p) : Hid p := h
section
variable {α : Type} {en : α → List Value} {sz : Nat}
/-- Some are written full, one as far as i. -/
def fillU (mk : Nat → Nat → α) (fs : Nat → List α) (k i : Nat) : Nat → List α := fun j => if j < k then mks (mk j) (fs j).length else if j = k then asM (mk j) (fs j) i else fs j
theorem fillU_at (mk : Nat → Nat → α) (fs : Nat → List α) (k i : Nat) : fillU mk fs k i k = asM (mk k) (fs k) i := by unfold fillU; rw [if_neg (by omega), if_pos rfl]
theorem fillU_len (mk : Nat → Nat → α) (fs : Nat → List α) (k i : Nat) (h : i ≤ (fs k).length) (j : Nat) : (fillU mk fs k i j).length = (fs j).length := by
  unfold fillU
  split
  · rw [mks_len]
  · split
    · rename_i e
      subst e
      exact asM_len _ _ _ h
    · rfl
theorem fillU_zero (mk : Nat → Nat → α) (fs : Nat → List α) (j : Nat) : fillU mk fs 0 0 j = fs j := by
  unfold fillU
  rw [if_neg (by omega)]
  split
  · rw [asM_zero]
  · rfl
theorem fillU_next (mk : Nat → Nat → α) (fs : Nat → List α) (k j : Nat) : fillU mk fs k (fs k).length j = fillU mk fs (k + 1) 0 j := by
  unfold fillU
  by_cases h1 : j < k
  · rw [if_pos h1, if_pos (by omega)]
  · by_cases h2 : j = k
    · subst h2
      rw [if_neg h1, if_pos rfl, if_pos (by omega), asM_full]
    · rw [if_neg h1, if_neg h2, if_neg (by omega)]
      by_cases h3 : j = k + 1
      · rw [if_pos h3, asM_zero]
      · rw [if_neg h3]
theorem fillU_step (mk : Nat → Nat → α) (fs : Nat → List α) (k i j : Nat) (h : j ≠ k) : fillU mk fs k i j = fillU mk fs k (i + 1) j := by unfold fillU; simp [h]
/-- The lists' blocks. -/
def TV (K : Nat) (vs : Nat → Value) (i : Nat) : Prop := ∃ k, k < K ∧ (vs k).ownBlock = some i
/-- No two of the lists lie in one block, and none lies in their row's. -/
structure Apt (K gl : Nat) (vs : Nat → Value) : Prop where
  row : ∀ k, k < K → (vs k).ownBlock ≠ some gl
  two : ∀ j k, j < K → k < K → j ≠ k → ∀ b, (vs j).ownBlock = some b → (vs k).ownBlock ≠ some b
/-- The lists' row, the lists; nothing else has turned. -/
structure Lsts (en : α → List Value) (e sz : Nat) (K gl : Nat) (vs : Nat → Value) (w0 : World) (fs : Nat → List α) (w : World) : Prop where
  fr : Fr (TV K vs) w0 w
  head : ∀ k, k < K → w.cell? ⟨gl, k, none⟩ = some (vs k)
  own : ∀ k, k < K → w.ownsRow 0 e sz (vs k) (fs k).length ((fs k).flatMap en)
theorem Lsts.later {e K gl : Nat} {vs : Nat → Value} {w0 w w' : World} {fs : Nat → List α} (h : Lsts en e sz K gl vs w0 fs w) (hb : Below w.heap.size w w') : Lsts en e sz K gl vs w0 fs w' :=
  ⟨h.fr.trans (Fr.ofBelow (T := TV K vs) hb) (fun _ _ q => q), fun k hk => (hb.cell (p := ⟨gl, k, none⟩) (block_lt_of_cell (h.head k hk))).trans (h.head k hk), fun k hk => own_later (h.own k hk) hb⟩
theorem Lsts.next {e K gl : Nat} {mk : Nat → Nat → α} {vs : Nat → Value} {w0 w : World} {fs : Nat → List α} {k : Nat} (h : Lsts en e sz K gl vs w0 (fillU mk fs k (fs k).length) w) : Lsts en e sz K gl vs w0 (fillU mk fs (k + 1) 0) w :=
  ⟨h.fr, h.head, fun j hj => by rw [← fillU_next]; exact h.own j hj⟩
theorem Lsts.store (hr : ∀ x, (en x).length = sz) {e K gl : Nat} {mk : Nat → Nat → α} {vs : Nat → Value} {w0 w : World} {fs : Nat → List α} {k i g n c : Nat} (h : Lsts en e sz K gl vs w0 (fillU mk fs k i) w) (hap : Apt K gl vs) (hk : k < K)
    (hv : vs k = .slice (some ⟨g, 0, none⟩) n c) (hn : (fs k).length = n) (hi : i < n) :
    ∃ cur, w.heap[g]? = some (.cells cur e) ∧ i * sz + sz ≤ cur.size ∧ Lsts en e sz K gl vs w0 (fillU mk fs k (i + 1)) (w.setRow g (putE cur (i * sz) (en (mk k i)))) := by
  have ho := h.own k hk
  rw [fillU_len _ _ _ _ (by omega), hv, hn, fillU_at] at ho
  obtain ⟨cur, hg, hfit, hnew⟩ := own_set hr (x := mk k i) ho (by rw [asM_len _ _ _ (by omega)]; exact hn) hi
  rw [asM_set _ _ _ (by omega)] at hnew
  have hgl : gl ≠ g := fun q => hap.row k hk (by rw [hv, q]; rfl)
  refine ⟨cur, hg, hfit, ⟨h.fr.trans (Fr.setRow w g _) (fun j _ q => ⟨k, hk, by rw [hv, q]; rfl⟩), fun j hj => ?_, fun j hj => ?_⟩⟩
  · exact (World.cell?_of_block (a := ⟨gl, j, none⟩) (setRow_other w g gl _ hgl)).trans (h.head j hj)
  · by_cases q : j = k
    · subst q
      rw [fillU_len _ _ _ _ (by omega), hv, hn, fillU_at]
      exact hnew
    · have hj2 := own_other (h.own j hj) (g := g) (fun q2 => hap.two j k hj hk q g q2 (by rw [hv]; rfl)) (putE cur (i * sz) (en (mk k i)))
      rw [← fillU_step _ _ _ _ _ q]
      exact hj2
/-- What the lists hold still: marks. -/
def KeepC (en : α → List Value) (sz : Nat) (mk : Nat → α) (v : Value) (n : Nat) (w : World) : Prop := 0 < n → ∃ g c, v = .slice (some ⟨g, 0, none⟩) n c ∧ g < w.heap.size ∧ ∀ i, i < n → ∀ j u, (en (mk i))[j]? = some u → w.cell? ⟨g, i * sz + j, none⟩ = some u
theorem KeepC.of (hr : ∀ x, (en x).length = sz) {B e n : Nat} {mk : Nat → α} {v : Value} {w : World} (h : w.ownsRow B e sz v n ((mks mk n).flatMap en)) : KeepC en sz mk v n w := fun h0 => by
  rcases own_form h with ⟨_, q⟩ | ⟨g, c, rfl, hlt⟩
  · omega
  · exact ⟨g, c, rfl, hlt, fun i hi => own_get hr h (mks_get mk n i hi)⟩
theorem KeepC.frame {n : Nat} {mk : Nat → α} {v : Value} {w w' : World} {T : Nat → Prop} (h : KeepC en sz mk v n w) (hf : Fr T w w') (hT : ∀ i, v.ownBlock = some i → ¬ T i) : KeepC en sz mk v n w' := fun h0 => by
  obtain ⟨g, c, rfl, hlt, hc⟩ := h h0
  exact ⟨g, c, rfl, Nat.lt_of_lt_of_le hlt hf.size, fun i hi j u hu => (World.cell?_of_block (a := ⟨g, i * sz + j, none⟩) (hf.block g hlt (hT g rfl))).trans (hc i hi j u hu)⟩
/-- A longer list in the same block holds what the shorter one holds. -/
theorem KeepC.under (hr : ∀ x, (en x).length = sz) {B e n m : Nat} {mk : Nat → α} {v u : Value} {w : World} (h0 : KeepC en sz mk v n w ∨ ∃ g c, v = .slice (some ⟨g, 0, none⟩) n c) (hu : w.ownsRow B e sz u m ((mks mk m).flatMap en)) (hb : u.ownBlock = v.ownBlock) (hnm : n ≤ m) : KeepC en sz mk v n w := fun hn => by
  rcases own_form hu with ⟨_, q⟩ | ⟨g, c, rfl, hlt⟩
  · omega
  · have hv : ∃ g' c', v = .slice (some ⟨g', 0, none⟩) n c' := by
      rcases h0 with q | q
      · obtain ⟨g', c', q, _⟩ := q hn
        exact ⟨g', c', q⟩
      · exact q
    obtain ⟨g', c', rfl⟩ := hv
    have e1 : g = g' := by simpa [Value.ownBlock] using hb
    subst e1
    exact ⟨g, c', rfl, hlt, fun i hi => own_get hr hu (mks_get mk m i (by omega))⟩
/-- gv, but at k. -/
def updV (gv : Nat → Value) (k : Nat) (x : Value) : Nat → Value := fun j => if j = k then x else gv j
theorem range_updV (gv : Nat → Value) (k : Nat) (x : Value) : (List.range k).map gv ++ [x] = (List.range (k + 1)).map (updV gv k x) := by
  rw [List.range_succ, List.map_append]
  congr 1
  · apply List.map_congr_left
    intro j hj
    have := List.mem_range.1 hj
    unfold updV
    rw [if_neg (by omega)]
  · simp [updV]
end
end Go.Proofs.Ytadljgaadjajdaa
