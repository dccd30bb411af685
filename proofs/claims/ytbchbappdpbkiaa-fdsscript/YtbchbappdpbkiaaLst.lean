/- Lists of anything that a call makes: gone on with one by one, looked at; lists of at most ten million. -/
import Derived.Test.YtbchbappdpbkiaaRowN
namespace Go.Proofs.Ytbchbappdpbkiaa
open Go.RowKit Go.Maps
theorem own_pushF {α : Type} {en : α → List Value} {sz e : Nat} {st : TypeId} {i : TypeInfo} {z : Value} {bytes : Nat} (hr : ∀ x, (en x).length = sz) (h1 : ∀ x, ∀ u ∈ en x, u.oneCell' = true) (ht : Try.prog.underlying st = some (.slice e)) (hi : Try.prog.info? e = some i) (hz : i.zero = some z) (hsize : i.size = sz) (hby : i.bytes = bytes) (hzs : z.cells.size = sz) (hsz : 0 < sz) (hbb : bytes ≤ 2000)
    {B : Nat} {w : World} {v : Value} {l : List α} (h : w.ownsRow B e sz v l.length (l.flatMap en)) (hB : B ≤ w.heap.size) (hn : l.length ≤ 10000000) (x : α) (ty : TypeId) :
    ∃ v' w', (Builtin.append_ #[st, st] ty #[v, .slice (some ⟨w.heap.size, 0, none⟩) 1 1]).run Try.prog (w.alloc (.cells (en x).toArray e)) = .ok v' w' ∧ w'.ownsRow B e sz v' (l ++ [x]).length ((l ++ [x]).flatMap en) ∧ Below B w w' ∧ Fr (fun b => v.ownBlock = some b) w w' := by
  have hnews : ∀ j v, (en x)[j]? = some v → (w.alloc (.cells (en x).toArray e)).cell? ((⟨w.heap.size, 0, none⟩ : Addr).add j) = some v := fun j v hv => by
    rw [Go.WideShapes.add_plain, Nat.zero_add, cell_of_row _ _ j _ e _ (heap_alloc_new w _), List.getElem?_toArray]
    exact hv
  have hbt : ((l.length + 1) + (l.length + 1) / 4 + 192) * bytes ≤ 281474976710656 := by
    have : ((l.length + 1) + (l.length + 1) / 4 + 192) * bytes ≤ 12500194 * 2000 := Nat.mul_le_mul (by omega) hbb
    omega
  obtain ⟨v', w', hrun, ho', hf, _⟩ := append_gen (W := w.alloc (.cells (en x).toArray e)) (v := v) ht hi hz hsize hby hzs hsz (World.ownsRow.alloc h (.cells (en x).toArray e)) (ad := ⟨w.heap.size, 0, none⟩) (m := 1) (c := 1) (news := en x) (by omega) (by rw [hr, Nat.one_mul]) hnews (h1 x) (by unfold maxLen; omega) hbt (by simp only [World.alloc, Array.size_push]; omega) ty
  have hF : Fr (fun b => v.ownBlock = some b) w w' := (Fr.alloc _ w (.cells (en x).toArray e)).trans hf fun _ _ q => q
  refine ⟨v', w', hrun, ?_, hF.below (fun j q => (h.lt j q).1) hB, hF⟩
  rw [List.length_append, List.flatMap_append]
  simpa using ho'
theorem rows_apart {W : World} {B B' e e' sz sz' n n' b : Nat} {x v : Value} {xs ys : List Value} (hne : e' ≠ e) (hx : W.ownsRow B e sz x n xs) (hb : x.ownBlock = some b) (hv : W.ownsRow B' e' sz' v n' ys) : v.ownBlock ≠ some b := fun q => by
  obtain ⟨_, hx⟩ := hx
  obtain ⟨_, hv⟩ := hv
  rcases hx with ⟨rfl, _⟩ | ⟨g1, c1, r1, rfl, _, hg1, _⟩
  · cases hb
  · rcases hv with ⟨rfl, _⟩ | ⟨g2, c2, r2, rfl, _, hg2, _⟩
    · cases q
    · injection hb with hb
      injection q with q
      have e1 : g1 = g2 := by rw [show g1 = b from hb, show g2 = b from q]
      subst e1
      rw [hg1] at hg2
      injection hg2 with hg2
      injection hg2 with _ hg2
      exact hne hg2.symm
theorem own_ne {W : World} {B e sz n g t : Nat} {v : Value} {xs : List Value} {Z : Array Value} (h : W.ownsRow B e sz v n xs) (hg : W.heap[g]? = some (.cells Z t)) (hne : e ≠ t) : v.ownBlock ≠ some g := fun q => by
  obtain ⟨_, h⟩ := h
  rcases h with ⟨rfl, _⟩ | ⟨g1, c1, r1, rfl, _, hg1, _⟩
  · cases q
  · injection q with q
    have q' : g1 = g := q
    subst q'
    rw [hg1] at hg
    injection hg with hg
    injection hg with _ hg
    exact hne hg
theorem wpList_app {ops : Array Oper} {rest : List Oper} {o : Oper} {a : Act} {W W' : World} {v v' : Value} {ad : Addr} {m c : Nat} {st : TypeId} {Q : Exit → Act → World → Prop} (hgd : o.guard = none) (s y : Operand)
    (ho : o.op = .call { callee := .builtin .append, args := #[s, y], argTypes := #[st, st] }) (hs : a.eval s = v) (hx : a.eval y = .slice (some ad) m c)
    (hr : (Builtin.append_ #[st, st] o.type #[v, .slice (some ad) m c]).run Try.prog W = .ok v' W') (h : wpList Try.prog ops Q rest (a.put o.dst v') W') : wpList Try.prog ops Q (o :: rest) a W :=
  wpList_plain hgd fun _ hK => by
    unfold Oper.wp
    rw [exec_push ho hs hx hr]
    exact hK _ _ h
/-- The slice v owns the list l, each element by its cells. -/
def OwnG {α : Type} (en : α → List Value) (e sz : Nat) (w : World) (B : Nat) (v : Value) (l : List α) : Prop := w.ownsRow B e sz v l.length (l.flatMap en)
/-- A list that lies in memory, from the beginning of a block. -/
def LieG {α : Type} (en : α → List Value) (sz : Nat) (w : World) (p : Option Addr) (l : List α) : Prop := 0 < l.length → ∃ g, p = some ⟨g, 0, none⟩ ∧ g < w.heap.size ∧ ∀ (i : Nat) x, l[i]? = some x → ∀ j u, (en x)[j]? = some u → w.cell? ⟨g, i * sz + j, none⟩ = some u
section
variable {α : Type} {en : α → List Value} {e sz : Nat}
theorem OwnG.nil (w : World) (B : Nat) : OwnG en e sz w B (.slice none 0 0) ([] : List α) := World.ownsRow_nil w B e sz
theorem OwnG.later {w W : World} {B : Nat} {v : Value} {l : List α} (h : OwnG en e sz w B v l) (hb : Below w.heap.size w W) : OwnG en e sz W B v l := own_later h hb
theorem OwnG.mono {w : World} {B B' : Nat} {v : Value} {l : List α} (h : OwnG en e sz w B v l) (hb : B' ≤ B) : OwnG en e sz w B' v l := World.ownsRow.mono h hb
theorem OwnG.lie (hr : ∀ x, (en x).length = sz) {w : World} {B : Nat} {v : Value} {l : List α} (h : OwnG en e sz w B v l) : ∃ p c, v = .slice p l.length c ∧ LieG en sz w p l := by
  rcases own_form h with ⟨rfl, h0⟩ | ⟨g, c, rfl, hlt⟩
  · exact ⟨none, 0, by rw [h0], fun q => by omega⟩
  · exact ⟨_, c, rfl, fun _ => ⟨g, rfl, hlt, fun i x hx => own_get hr h hx⟩⟩
theorem LieG.later {w W : World} {p : Option Addr} {l : List α} (h : LieG en sz w p l) (hb : Below w.heap.size w W) : LieG en sz W p l := fun h0 => by
  obtain ⟨g, h1, h2, h3⟩ := h h0
  exact ⟨g, h1, Nat.lt_of_lt_of_le h2 hb.size, fun i x hx j u hu => (hb.cell (p := ⟨g, i * sz + j, none⟩) h2).trans (h3 i x hx j u hu)⟩
end
/-- Pairs of numbers. -/
def pc2 (p : Int × Int) : List Value := [.int .i64 p.1, .int .i64 p.2]
theorem pc2_len (p : Int × Int) : (pc2 p).length = 2 := rfl
theorem pc2_one (p : Int × Int) : ∀ u ∈ pc2 p, u.oneCell' = true := fun u hu => by
  simp [pc2] at hu
  rcases hu with rfl | rfl <;> rfl
end Go.Proofs.Ytbchbappdpbkiaa
