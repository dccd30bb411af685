/- Maps from numbers to values, told as functions: what is looked up, written, struck; the numbers lie from 0 to 2 to the 20th. -/
import Derived.Maps.RangeWalk
import Derived.WalkKit
namespace Go.Proofs.Ytembocfghkmieaa
open Go.Maps

/-- An element reads as itself. -/
def valElem (v : Value) : Option (DataW Value × List MemPlace) := some (.held v, [])

theorem nodup_le : ∀ (N : Nat) (l : List Int), l.Nodup → (∀ x ∈ l, 0 ≤ x ∧ x < (N : Int)) → l.length ≤ N
  | 0, l, _, h => by
    cases l with
    | nil => simp
    | cons a t => have := h a (by simp); omega
  | N + 1, l, hn, h => by
    by_cases hm : (N : Int) ∈ l
    · have h1 := nodup_le N (l.erase (N : Int)) (hn.erase _) (fun x hx => by
        have hx' := (hn.mem_erase_iff).1 hx
        have := h x hx'.2
        have hne := hx'.1
        omega)
      rw [List.length_erase_of_mem hm] at h1
      omega
    · have h1 := nodup_le N l hn (fun x hx => by
        have := h x hx
        have hne : x ≠ (N : Int) := fun e => hm (e ▸ hx)
        omega)
      omega

/-- The greatest number of blocks. -/
abbrev top : Nat := 1048576
def inTop (x : Int) : Prop := 0 ≤ x ∧ x < 1048576
theorem inTop.wf {x : Int} (h : inTop x) : (Lit.int .i64 x).wf = true := by
  obtain ⟨h1, h2⟩ := h
  exact WalkArith.wf_i64 (by omega)

/-- The datum D reads as the function m. -/
structure Views (D : DataW Value) (m : Int → Option Value) : Prop where
  some : ∀ x v, m x = .some v → inTop x ∧ has D (.int .i64 x) = true ∧ ∀ z, D.atKey (.int .i64 x) z = .held v
  none : ∀ x, m x = .none → has D (.int .i64 x) = false

/-- Block b is a map that reads as the function m. -/
def MapIs (P : Program) (k : TypeId) (w : World) (b : Nat) (m : Int → Option Value) : Prop :=
  ∃ D, w.ownsMap P k valElem b top D ∧ Views D m

variable {P : Program} {k : TypeId} {w : World} {b : Nat} {m : Int → Option Value}

theorem MapIs.lt (h : MapIs P k w b m) : b < w.heap.size := by obtain ⟨D, h, _⟩ := h; exact h.lt
theorem MapIs.kept {w' : World} (h : MapIs P k w b m) (hb : w'.heap[b]? = w.heap[b]?) : MapIs P k w' b m := by
  obtain ⟨D, ⟨es, clock, h1, h2⟩, hv⟩ := h
  exact ⟨D, ⟨es, clock, hb.trans h1, h2⟩, hv⟩
theorem MapIs.isMap (h : MapIs P k w b m) : ∃ es clock, w.heap[b]? = some (.map es clock) := by
  obtain ⟨D, ⟨es, clock, h1, _⟩, _⟩ := h
  exact ⟨es, clock, h1⟩
theorem MapIs.made (w : World) : MapIs P k (w.alloc (.map #[] 0)) w.heap.size (fun _ => none) := by
  refine ⟨.map [], (World.ownsMap_made w P k valElem).mono (by unfold top; omega), ⟨fun x v h => by simp at h, fun x _ => rfl⟩⟩

theorem size_top (hk : P.underlying k = some (.int .i64)) {n : Nat} {D : DataW Value} (h : w.ownsMap P k valElem b n D) (K : Keyed P k) (hv : Views D m) : Maps.size D ≤ top := by
  obtain ⟨es, rfl, hp, _⟩ := h.entries K
  have hko : ∀ p ∈ es, ∃ x, p.1 = .int .i64 x := by
    obtain ⟨es', clock, _, F, _, hD⟩ := h
    intro p hp
    have e : es = (es'.toList.map (Go.WideElems.rg P k valElem)).foldr DataW.insert [] := by simpa using hD
    rw [e] at hp
    obtain ⟨y, hy, rfl⟩ := List.mem_map.1 (mem_sorted.1 hp)
    obtain ⟨z, hz⟩ := F.reads y hy
    obtain ⟨x, _, hx, _⟩ := Maps.keyOf_int_inv hk (Go.WideElems.rd_key hz)
    exact ⟨x, by rw [Go.WideElems.rg_of hz]; exact hx⟩
  let f : Lit × DataW Value → Int := fun p => match p.1 with | .int _ x => x | _ => 0
  have h1 := nodup_le top (es.map f) ?_ ?_
  · simpa [Maps.size] using h1
  · refine List.pairwise_map.2 (hp.imp_of_mem fun {p q} hp' hq' hne e => hne ?_)
    obtain ⟨a, ha⟩ := hko p hp'
    obtain ⟨c, hc⟩ := hko q hq'
    simp only [f, ha, hc] at e
    rw [ha, hc, e]
  · intro x hx
    obtain ⟨p, hp', rfl⟩ := List.mem_map.1 hx
    obtain ⟨a, ha⟩ := hko p hp'
    have hh : has (.map es) (.int .i64 a) = true := List.any_eq_true.2 ⟨p, hp', by rw [ha]; simp [Lit.sameKey]⟩
    have hfa : f p = a := by simp only [f, ha]
    rw [hfa]
    cases hm : m a with
    | none => rw [hv.none a hm] at hh; cases hh
    | some v => exact (hv.some a v hm).1
theorem owns_top (hk : P.underlying k = some (.int .i64)) {n : Nat} {D : DataW Value} (h : w.ownsMap P k valElem b n D) (K : Keyed P k) (hv : Views D m) : w.ownsMap P k valElem b top D := by
  have h1 := size_top hk h K hv
  obtain ⟨es, clock, hb, F, _, rfl⟩ := h
  exact ⟨es, clock, hb, F, by simpa [Maps.size, length_sorted] using h1, rfl⟩

theorem views_put {D : DataW Value} (hD : IsMap D) (hv : Views D m) {x : Int} (hx : inTop x) (v : Value) : Views (D.put (.int .i64 x) (.held v)) (fun y => if y = x then some v else m y) := by
  have hkl : WideAt.IsKeyLit (.int .i64 x) := by first | trivial | simp [WideAt.IsKeyLit]
  constructor
  · intro y u hy
    by_cases e : y = x
    · subst e
      simp only [if_pos] at hy
      cases hy
      exact ⟨hx, has_put_same hD hkl _, fun z => atKey_put_same hD hkl _ z⟩
    · simp only [if_neg e] at hy
      obtain ⟨h1, h2, h3⟩ := hv.some y u hy
      have hne : (Lit.int .i64 y) ≠ .int .i64 x := fun q => e (by injection q)
      exact ⟨h1, by rw [has_put_other hne]; exact h2, fun z => by rw [atKey_put_other hne]; exact h3 z⟩
  · intro y hy
    by_cases e : y = x
    · subst e; simp at hy
    · simp only [if_neg e] at hy
      have hne : (Lit.int .i64 y) ≠ .int .i64 x := fun q => e (by injection q)
      rw [has_put_other hne]; exact hv.none y hy
theorem views_del {D : DataW Value} (hv : Views D m) (x : Int) : Views (D.del (.int .i64 x)) (fun y => if y = x then none else m y) := by
  constructor
  · intro y u hy
    by_cases e : y = x
    · subst e; simp at hy
    · simp only [if_neg e] at hy
      obtain ⟨h1, h2, h3⟩ := hv.some y u hy
      have hne : (Lit.int .i64 y) ≠ .int .i64 x := fun q => e (by injection q)
      exact ⟨h1, by rw [has_del_other hne]; exact h2, fun z => by rw [atKey_del_other hne]; exact h3 z⟩
  · intro y hy
    by_cases e : y = x
    · subst e; exact has_del_same
    · simp only [if_neg e] at hy
      have hne : (Lit.int .i64 y) ≠ .int .i64 x := fun q => e (by injection q)
      rw [has_del_other hne]; exact hv.none y hy

section
variable {ops : Array Oper} {rest : List Oper} {o : Oper} {a : Act} {Q : Exit → Act → World → Prop}

theorem key_int (hk : P.underlying k = some (.int .i64)) {x : Int} (hx : (Lit.int .i64 x).wf = true) : keyOf P k (.int .i64 x) = some (.int .i64 x) := keyOf_int_mk hk hx

theorem valElem_inv {v : Value} {z : DataW Value} {ps : List MemPlace} (h : valElem v = some (z, ps)) : z = .held v := by
  unfold valElem at h
  cases h
  rfl

/-- What is looked up, with 'ok'. -/
theorem look_ok {t e : TypeId} (hk : P.underlying k = some (.int .i64)) (K : Keyed P k) (ht : P.underlying t = some (.map k e)) (h : MapIs P k w b m) {z : Value} (hz : (zeroValue e).run P w = .ok z w) {x : Int} (hx : (Lit.int .i64 x).wf = true) :
    (Instr.lookup t (.map (some b)) (.int .i64 x) true).run P w = .ok (.tuple #[(m x).getD z, .bool (m x).isSome]) w := by
  obtain ⟨D, hown, hv⟩ := h
  obtain ⟨v, ps, hrun, hR⟩ := hown.look_ok K ht hz (zd := .held z) (zp := []) rfl (key_int hk hx)
  rw [hrun]
  cases hm : m x with
  | none =>
    have h1 := hv.none x hm
    rw [atKey_of_not_has h1] at hR
    unfold valElem at hR
    simp at hR
    rw [h1, hR.1]; rfl
  | some u =>
    obtain ⟨_, h1, h2⟩ := hv.some x u hm
    rw [h2] at hR
    unfold valElem at hR
    simp at hR
    rw [h1, hR.1]; rfl
theorem wpList_lookM_ok (hg : o.guard = none) (mo xo : Operand) (t : TypeId) (hop : o.op = Op.lookup t mo xo true) (e : TypeId) (hk : P.underlying k = some (.int .i64)) (K : Keyed P k) (ht : P.underlying t = some (.map k e))
    (hm : a.eval mo = .map (some b)) (h : MapIs P k w b m) {z : Value} (hz : (zeroValue e).run P w = .ok z w) (x : Int) (hx : (Lit.int .i64 x).wf = true) (hxo : a.eval xo = .int .i64 x)
    (hK : wpList P ops Q rest (a.put o.dst (.tuple #[(m x).getD z, .bool (m x).isSome])) w) : wpList P ops Q (o :: rest) a w := by
  refine wpList_plain hg fun K' hK' => ?_
  unfold Oper.wp
  simp [execOp, hop, hm, hxo, look_ok hk K ht h hz hx, Result.andThen]
  exact hK' _ _ hK
/-- .. without it. -/
theorem look_at {t e : TypeId} (hk : P.underlying k = some (.int .i64)) (K : Keyed P k) (ht : P.underlying t = some (.map k e)) (h : MapIs P k w b m) {z : Value} (hz : (zeroValue e).run P w = .ok z w) {x : Int} (hx : (Lit.int .i64 x).wf = true) :
    (Instr.lookup t (.map (some b)) (.int .i64 x) false).run P w = .ok ((m x).getD z) w := by
  obtain ⟨D, hown, hv⟩ := h
  obtain ⟨v, ps, hrun, hR⟩ := hown.lookup K ht hz (zd := .held z) (zp := []) rfl (key_int hk hx)
  rw [hrun]
  cases hm : m x with
  | none =>
    have h1 := hv.none x hm
    rw [atKey_of_not_has h1] at hR
    unfold valElem at hR
    simp at hR
    rw [hR.1]; rfl
  | some u =>
    obtain ⟨_, h1, h2⟩ := hv.some x u hm
    rw [h2] at hR
    unfold valElem at hR
    simp at hR
    rw [hR.1]; rfl
/-- What is written. -/
theorem wpList_putM (hg : o.guard = none) (mo xo vo : Operand) (t : TypeId) (hop : o.op = Op.mapUpdate t mo xo vo) (e : TypeId) (hk : P.underlying k = some (.int .i64)) (K : Keyed P k) (ht : P.underlying t = some (.map k e))
    (b : Nat) (m : Int → Option Value) (hm : a.eval mo = .map (some b)) (h : MapIs P k w b m) (x : Int) (hx : inTop x) (hxo : a.eval xo = .int .i64 x) (v : Value) (hvo : a.eval vo = v)
    (hK : ∀ w', MapIs P k w' b (fun y => if y = x then some v else m y) → w.grownBy w' (some b) → wpList P ops Q rest (a.put o.dst undef) w') : wpList P ops Q (o :: rest) a w := by
  obtain ⟨D, hown, hv⟩ := h
  refine wpList_mapUpdate_own w hg mo xo vo t hop k e K ht valElem b top D hm hown (by unfold top maxLen; omega) _ _ (.int .i64 x) hxo hvo (key_int hk hx.wf) (.held v) [] rfl fun w' h1 h2 => ?_
  have hv' := views_put hown.isMap hv hx v
  exact hK w' ⟨_, owns_top hk h1 K hv', hv'⟩ h2
/-- What is struck. -/
theorem wpList_delM (hg : o.guard = none) (mo xo : Operand) (t : TypeId) (hop : o.op = Op.call { callee := Callee.builtin Builtin.delete, args := #[mo, xo], argTypes := #[t, k] }) (e : TypeId) (hk : P.underlying k = some (.int .i64)) (K : Keyed P k) (ht : P.underlying t = some (.map k e))
    (b : Nat) (m : Int → Option Value) (hm : a.eval mo = .map (some b)) (h : MapIs P k w b m) (x : Int) (hx : (Lit.int .i64 x).wf = true) (hxo : a.eval xo = .int .i64 x)
    (hK : ∀ w', MapIs P k w' b (fun y => if y = x then none else m y) → w.grownBy w' (some b) → wpList P ops Q rest (a.put o.dst (.tuple #[])) w') : wpList P ops Q (o :: rest) a w := by
  obtain ⟨D, hown, hv⟩ := h
  refine wpList_delete_own w hg mo xo t k hop e K ht valElem b top D hm hown _ (.int .i64 x) hxo (key_int hk hx) fun w' h1 h2 => ?_
  exact hK w' ⟨_, h1, views_del hv x⟩ h2.grown
end
end Go.Proofs.Ytembocfghkmieaa
