/- Rows of any type stored anywhere within a block; lists that a call owns, written over in part; appended to by one element; no condition. -/
import Derived.Test.YtbchbappdpbkiaaLst
import Derived.Test.YtbchbappdpbkiaaSep
namespace Go.Proofs.Ytbchbappdpbkiaa
open Go.RowKit Go.Maps
section
variable {o : Oper} {a : Act} {w : World} {ty t : TypeId} {x y : Operand} {g off : Nat} {cs : List Value} {cur : Array Value} {i : TypeInfo}
theorem exec_stAt (ho : o.op = .store ty x y) (hi : Try.prog.info? ty = some i) (hsz : i.size = cs.length) (hx : a.eval x = .pointer (some ⟨g, off, none⟩)) (hy : a.eval y = .agg cs.toArray)
    (hg : w.heap[g]? = some (.cells cur t)) (hfit : off + cs.length ≤ cur.size) (h1 : ∀ u ∈ cs, u.oneCell' = true) : (execOp a.eval o).run Try.prog w = .ok .skip (w.setRow g (putE cur off cs)) := by
  have hst := run_storeCells_at Try.prog g off t cs 0 cur w hg (by omega) h1
  simp only [Nat.add_zero] at hst
  unfold execOp
  unfold putE
  simp [ho, hx, hy, Instr.storeAt, Instr.sureAddr, storeVar, sizeOf, typeInfo, hi, hsz, Value.cells, hst]
theorem wpList_stAt {ops : Array Oper} {rest : List Oper} {Q : Exit → Act → World → Prop} (ty t : TypeId) (hgd : o.guard = none) (x y : Operand) (ho : o.op = .store ty x y) (g off : Nat) (cs : List Value) (cur : Array Value) (i : TypeInfo) (hi : Try.prog.info? ty = some i) (hsz : i.size = cs.length) (hx : a.eval x = .pointer (some ⟨g, off, none⟩)) (hy : a.eval y = .agg cs.toArray)
    (hg : w.heap[g]? = some (.cells cur t)) (hfit : off + cs.length ≤ cur.size) (h1 : ∀ u ∈ cs, u.oneCell' = true) (h : wpList Try.prog ops Q rest (a.put o.dst undef) (w.setRow g (putE cur off cs))) : wpList Try.prog ops Q (o :: rest) a w :=
  wpList_plain hgd fun _ hK => by
    unfold Oper.wp
    rw [exec_stAt ho hi hsz hx hy hg hfit h1]
    exact hK _ _ h
end
theorem own_put {B e sz n c g off : Nat} {w : World} {xs cs : List Value} (h : w.ownsRow B e sz (.slice (some ⟨g, 0, none⟩) n c) n xs) (hfit : off + cs.length ≤ n * sz) :
    ∃ cur, w.heap[g]? = some (.cells cur e) ∧ off + cs.length ≤ cur.size ∧ (w.setRow g (putE cur off cs)).ownsRow B e sz (.slice (some ⟨g, 0, none⟩) n c) n (xs.take off ++ cs ++ xs.drop (off + cs.length)) := by
  obtain ⟨hx, h2⟩ := h
  rcases h2 with ⟨q, _⟩ | ⟨g', cap, cur, hv, hB, hg, hnc, hcm, hcs, ht⟩
  · simp at q
  · injection hv with q1 q2 q3
    injection q1 with q1
    injection q1 with q1
    subst q1; subst q3
    have hle : n * sz ≤ cur.size := by rw [hcs]; exact Nat.mul_le_mul_right _ hnc
    have hcl : cur.toList.length = cur.size := Array.length_toList
    refine ⟨cur, hg, by omega, ?_, .inr ⟨g, c, _, rfl, hB, setRow_heap _ _ _ _ _ _ hg, hnc, hcm, ?_, ?_⟩⟩
    · simp only [List.length_append, List.length_take, List.length_drop]
      omega
    · rw [← hcs]
      unfold putE
      simp only [List.size_toArray, List.length_append, List.length_take, List.length_drop]
      omega
    · unfold putE
      have e1 : xs.take off = cur.toList.take off := by rw [← ht, List.take_take, Nat.min_eq_left (by omega)]
      have e2 : xs.drop (off + cs.length) = (cur.toList.drop (off + cs.length)).take (n * sz - (off + cs.length)) := by rw [← ht, List.drop_take]
      rw [List.toList_toArray, e1, e2, List.take_append, List.length_append, List.length_take, Nat.min_eq_left (by omega)]
      congr 1
      rw [List.take_of_length_le (by simp only [List.length_append, List.length_take]; omega)]
theorem own_pushG {α : Type} {en : α → List Value} {sz e : Nat} {st : TypeId} {i : TypeInfo} {z : Value} {bytes : Nat} (hr : ∀ x, (en x).length = sz) (h1 : ∀ x, ∀ u ∈ en x, u.oneCell' = true) (ht : Try.prog.underlying st = some (.slice e)) (hi : Try.prog.info? e = some i) (hz : i.zero = some z) (hsize : i.size = sz) (hby : i.bytes = bytes) (hzs : z.cells.size = sz) (hsz : 0 < sz) (hbb : bytes ≤ 2000)
    {B : Nat} {w : World} {v : Value} {l : List α} (h : w.ownsRow B e sz v l.length (l.flatMap en)) (hB : B ≤ w.heap.size) (hn : l.length ≤ 10000000) (x : α) (ty : TypeId) :
    ∃ v' w', (Builtin.append_ #[st, st] ty #[v, .slice (some ⟨w.heap.size, 0, none⟩) 1 1]).run Try.prog (w.alloc (.cells (en x).toArray e)) = .ok v' w' ∧ w'.ownsRow B e sz v' (l ++ [x]).length ((l ++ [x]).flatMap en) ∧ Fr (fun b => v.ownBlock = some b) w w' ∧ ∀ k, v'.ownBlock = some k → v.ownBlock = some k ∨ w.heap.size ≤ k := by
  have hnews : ∀ j v, (en x)[j]? = some v → (w.alloc (.cells (en x).toArray e)).cell? ((⟨w.heap.size, 0, none⟩ : Addr).add j) = some v := fun j v hv => by
    rw [Go.WideShapes.add_plain, Nat.zero_add, cell_of_row _ _ j _ e _ (heap_alloc_new w _), List.getElem?_toArray]
    exact hv
  have hbt : ((l.length + 1) + (l.length + 1) / 4 + 192) * bytes ≤ 281474976710656 := by
    have : ((l.length + 1) + (l.length + 1) / 4 + 192) * bytes ≤ 12500194 * 2000 := Nat.mul_le_mul (by omega) hbb
    omega
  obtain ⟨v', w', hrun, ho', hf, h4⟩ := append_gen (W := w.alloc (.cells (en x).toArray e)) (v := v) ht hi hz hsize hby hzs hsz (World.ownsRow.alloc h (.cells (en x).toArray e)) (ad := ⟨w.heap.size, 0, none⟩) (m := 1) (c := 1) (news := en x) (by omega) (by rw [hr, Nat.one_mul]) hnews (h1 x) (by unfold maxLen; omega) hbt (by simp only [World.alloc, Array.size_push]; omega) ty
  have hF : Fr (fun b => v.ownBlock = some b) w w' := (Fr.alloc _ w (.cells (en x).toArray e)).trans hf fun _ _ q => q
  refine ⟨v', w', hrun, ?_, hF, fun k hk => ?_⟩
  · rw [List.length_append, List.flatMap_append]
    simpa using ho'
  · rcases h4 k hk with q | q
    · exact .inl q
    · refine .inr ?_
      simp only [World.alloc, Array.size_push] at q
      omega
theorem own_lt {w : World} {B e sz n k : Nat} {v : Value} {xs : List Value} (h : w.ownsRow B e sz v n xs) (hk : v.ownBlock = some k) : k < w.heap.size := by
  rcases own_form h with ⟨rfl, _⟩ | ⟨b, c, rfl, hl⟩
  · cases hk
  · injection hk with hk
    rw [← hk]
    exact hl
end Go.Proofs.Ytbchbappdpbkiaa
