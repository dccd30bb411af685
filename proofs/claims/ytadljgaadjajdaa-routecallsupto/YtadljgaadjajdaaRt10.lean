/- RouteCalls: every call of route held against the document's, twice; memory apart; the names' texts have together at most 2 to the 20th bytes. -/
import Derived.Test.YtadljgaadjajdaaRt9
import Derived.Test.YtadljgaadjajdaaApT
namespace Go.Proofs.Ytadljgaadjajdaa
open Go.RowKit Go.Maps
theorem fmT (l : List ByteArray) : l.flatMap enT = l.map Value.string := by
  induction l with
  | nil => rfl
  | cons x t ih => rw [List.flatMap_cons, ih]; rfl
theorem tx_prefix {w : World} {p : Option Addr} {l m : List ByteArray} (h : TxAt w p (l ++ m)) : TxAt w p l := fun h0 => by
  obtain ⟨b, off, e, hb, hc⟩ := h (by rw [List.length_append]; omega)
  exact ⟨b, off, e, hb, fun j x hx => hc j x (by rw [List.getElem?_append_left (List.getElem?_eq_some_iff.1 hx).1]; exact hx)⟩
/-- An x behind each of the first i. -/
def xT (s : ByteArray) : ByteArray := s ++ ⟨#[120]⟩
def xL (l : List ByteArray) (i : Nat) : List ByteArray := (l.take i).map xT ++ l.drop i
theorem xL_zero (l : List ByteArray) : xL l 0 = l := by simp [xL]
theorem xL_full (l : List ByteArray) : xL l l.length = l.map xT := by simp [xL]
theorem xL_len (l : List ByteArray) (i : Nat) : (xL l i).length = l.length := by
  unfold xL
  rw [List.length_append, List.length_map, List.length_take, List.length_drop]
  omega
theorem xL_get (l : List ByteArray) (i : Nat) (h : i < l.length) : (xL l i)[i]? = some l[i] := by
  unfold xL
  rw [List.getElem?_append_right (by rw [List.length_map, List.length_take]; omega), List.length_map, List.length_take, Nat.min_eq_left (by omega), Nat.sub_self, List.getElem?_drop, Nat.add_zero, List.getElem?_eq_getElem h]
theorem xL_set (l : List ByteArray) (i : Nat) (h : i < l.length) : (xL l i).set i (xT l[i]) = xL l (i + 1) := by
  unfold xL
  rw [List.set_append_right _ _ (by rw [List.length_map, List.length_take]; omega), List.length_map, List.length_take, Nat.min_eq_left (by omega), Nat.sub_self, List.drop_eq_getElem_cons h, List.set_cons_zero, List.take_add_one, List.getElem?_eq_getElem h, List.map_append, List.append_assoc]
  rfl
theorem jl_x (l : List ByteArray) : (jl (bls (l.map xT))).length = (jl (bls l)).length + l.length := by
  induction l with
  | nil => rfl
  | cons x t ih =>
    have e1 : bls ((x :: t).map xT) = bl (xT x) :: bls (t.map xT) := rfl
    have e2 : bls (x :: t) = bl x :: bls t := rfl
    have e3 : (bl (xT x)).length = (bl x).length + 1 := by unfold xT; rw [bl_app, List.length_append]; rfl
    rw [e1, e2, jl_cons, jl_cons, List.length_cons, List.length_cons, List.length_append, List.length_append, ih, e3, List.length_cons]
    omega
theorem size_le_jl {l : List ByteArray} {i : Nat} (h : i < l.length) : l[i].size ≤ (jl (bls l)).length := by
  have := jl_take_name l i h
  omega
/-- A list that is owned, one of its texts written over. -/
theorem OwnS.put {w : World} {B g c n i : Nat} {l : List ByteArray} (h : OwnS w B (.slice (some ⟨g, 0, none⟩) n c) l) (hn : l.length = n) (hi : i < n) (x : ByteArray) :
    ∃ cur, w.heap[g]? = some (.cells cur 9) ∧ i + 1 ≤ cur.size ∧ OwnS (w.setRow g (putE cur i (enT x))) B (.slice (some ⟨g, 0, none⟩) n c) (l.set i x) := by
  unfold OwnS at *
  rw [hn, ← fmT] at h
  obtain ⟨cur, h1, h2, h3⟩ := own_set lenT (x := x) h hn hi
  rw [Nat.mul_one] at h2 h3
  refine ⟨cur, h1, h2, ?_⟩
  rw [List.length_set, hn, ← fmT]
  exact h3
theorem wpList_stT {ops : Array Oper} {rest : List Oper} {o : Oper} {a : Act} {w : World} {Q : Exit → Act → World → Prop} (hgd : o.guard = none) (x y : Operand) (ho : o.op = .store 9 x y) (g off : Nat) (s : ByteArray) (cur : Array Value)
    (hx : a.eval x = .pointer (some ⟨g, off, none⟩)) (hy : a.eval y = .string s) (hg : w.heap[g]? = some (.cells cur 9)) (hfit : off + 1 ≤ cur.size)
    (h : wpList Try.prog ops Q rest (a.put o.dst undef) (w.setRow g (putE cur off (enT s)))) : wpList Try.prog ops Q (o :: rest) a w :=
  wpList_plain hgd fun _ hK => by
    have hr := storeXT (x := s) hg hfit
    unfold vlT at hr
    unfold Oper.wp execOp
    simp only [ho, hx, hy, Sem.run_bind, hr, Result.andThen_ok, Sem.run_pure]
    exact hK _ _ h
theorem OwnS.cell {w : World} {B g c n i : Nat} {l : List ByteArray} {x : ByteArray} (h : OwnS w B (.slice (some ⟨g, 0, none⟩) n c) l) (hx : l[i]? = some x) : w.cell? ⟨g, i, none⟩ = some (.string x) := by
  have := h.cells (g := g) rfl i (.string x) (by rw [List.getElem?_map, hx]; rfl)
  rw [Go.WideShapes.add_plain, Nat.zero_add] at this
  exact this
/-- Two lists of texts are told apart. -/
theorem apart_two {w : World} {B g : Nat} {p q : Option Addr} {n c d : Nat} {L : List ByteArray} (hn : L.length = n) (hn2 : n ≤ 2000) (hg : w.heap[g]? = some (.cells #[.slice p n c, .slice q n d] 22))
    (h1 : OwnS w B (.slice p n c) L) (h2 : OwnS w B (.slice q n d) L) (hap : ∀ b, (Value.slice p n c).ownBlock = some b → (Value.slice q n d).ownBlock ≠ some b) (B0 : Nat) (hB1 : ∀ b, (Value.slice p n c).ownBlock = some b → B0 ≤ b) (hB2 : ∀ b, (Value.slice q n d).ownBlock = some b → B0 ≤ b) (hB0 : B0 ≤ w.heap.size) :
    Calls Try.prog 18 #[.slice (some ⟨g, 0, none⟩) 2 2] w fun e w' => e = .returned (.bool true) ∧ Below B0 w w' := by
  have row : ∀ {v : Value} {xs : List ByteArray}, OwnS w B v xs → v.ownBlock ≠ some g := fun {v xs} h q => by
    rcases h.2 with ⟨rfl, _⟩ | ⟨g1, c1, r1, rfl, _, hg1, _⟩
    · cases q
    · injection q with q
      have e : g1 = g := q
      subst e
      rw [hg1] at hg
      injection hg with hg
      injection hg with _ hg
      cases hg
  have z0 : ∀ {v : Value} {xs : List ByteArray}, OwnS w B v xs → w.ownsRow 0 9 1 v xs.length (xs.flatMap enT) := fun {v xs} h => by
    rw [fmT]
    refine ⟨h.1, ?_⟩
    rcases h.2 with h | ⟨g1, c1, r1, e, _, r⟩
    · exact .inl h
    · exact .inr ⟨g1, c1, r1, e, Nat.zero_le _, r⟩
  have key := apartT_any 2 g (fun k => if k = 0 then p else q) (fun _ => n) (fun k => if k = 0 then c else d) w (fun _ => L) (by omega) (by omega) 2 (fun k _ => ⟨hn, by show n ≤ 10000000; omega⟩)
    ⟨fun k hk => by
      match k, hk with
      | 0, _ => exact row h1
      | 1, _ => exact row h2, fun j k hj hk hne b hb => by
      match j, hj, k, hk with
      | 0, _, 0, _ => exact absurd rfl hne
      | 0, _, 1, _ => exact hap b hb
      | 1, _, 0, _ => exact fun q => hap b q hb
      | 1, _, 1, _ => exact absurd rfl hne⟩
    ⟨Fr.refl _ _, fun k hk => by
      match k, hk with
      | 0, _ => rw [cell_of_row _ _ 0 _ _ _ hg]; rfl
      | 1, _ => rw [cell_of_row _ _ 1 _ _ _ hg]; rfl, fun k hk => by
      match k, hk with
      | 0, _ => exact z0 h1
      | 1, _ => exact z0 h2⟩
  refine key.mono fun e w' ⟨h, hf⟩ => ⟨h, hf.below (fun b hb => ?_) hB0⟩
  obtain ⟨k, hk, hb⟩ := hb
  match k, hk with
  | 0, _ => exact hB1 b hb
  | 1, _ => exact hB2 b hb
end Go.Proofs.Ytadljgaadjajdaa
