/- Lists beside a log grow: numbers, blocks, things done; one or several at a time; of fewer bytes than memory has. -/
import Derived.Test.YtahaiciciljijabLSide
namespace Go.Proofs.Ytahaiciciljijab
open Go.RowKit Go.Maps
variable {w W W' : World} {g d : Nat} {v v' : Value} {x : LSt} {t : St} {ks : List (Nat × Obj)} {book : Int → Nat → Int}
theorem append_gen {st e : TypeId} {i : TypeInfo} {z : Value} {size bytes : Nat} (ht : Try.prog.underlying st = some (.slice e)) (hi : Try.prog.info? e = some i) (hz : i.zero = some z) (hsize : i.size = size) (hby : i.bytes = bytes) (hzs : z.cells.size = size) (hsz : 0 < size)
    {B : Nat} {n : Nat} {xs : List Value} (hown : W.ownsRow B e size v n xs) {ad : Addr} {m c : Nat} {news : List Value} (hm : 0 < m) (hl : news.length = m * size)
    (hnews : ∀ j u, news[j]? = some u → W.cell? (ad.add j) = some u) (h1 : ∀ u ∈ news, u.oneCell' = true) (h63 : n + m ≤ maxLen) (hbytes : ((n + m) + (n + m) / 4 + 192) * bytes ≤ 281474976710656) (hB : B ≤ W.heap.size) (ty : TypeId) :
    ∃ v' w', (Builtin.append_ #[st, st] ty #[v, .slice (some ad) m c]).run Try.prog W = .ok v' w' ∧ w'.ownsRow B e size v' (n + m) (xs ++ news) ∧ Fr (fun k => v.ownBlock = some k) W w' ∧ ∀ k, v'.ownBlock = some k → v.ownBlock = some k ∨ W.heap.size ≤ k := by
  obtain ⟨v', w', hr, h2, hg, _⟩ := run_append_own_wide (P := Try.prog) W B st ty e i z size bytes ht hi hz hsize hby hzs hsz v n xs hown ad m c news hl hnews h1 h63 hbytes hB
  refine ⟨v', w', hr, h2, Fr.ofGrown hg, fun k hk => ?_⟩
  have hmx : n + m ≤ 9223372036854775807 := by simp only [maxLen] at h63; omega
  have hmb : m * i.bytes ≤ 281474976710656 := by
    rw [hby]
    exact Nat.le_trans (Nat.mul_le_mul_right _ (by omega)) hbytes
  subst hsize
  subst hby
  rcases hown.2 with ⟨rfl, rfl⟩ | ⟨g, cap, cur, rfl, _, hg', hnc, hcm, hcs, htake⟩
  · rw [run_append_nil (P := Try.prog) W st ty e i _ ht hi hz ad m c news hl hnews hm (by omega) hmb] at hr
    injection hr with q1 q2
    rw [← q1] at hk
    injection hk with hk
    exact .inr (by rw [← hk]; exact Nat.le_refl _)
  · by_cases hroom : n + m ≤ cap
    · have hfit : n * i.size + news.length ≤ cur.size := by rw [hl, hcs, ← Nat.add_mul]; exact Nat.mul_le_mul_right _ hroom
      rw [run_append_room (P := Try.prog) W st ty e i ht hi g n cap cur hg' ad m c news hl hnews h1 hroom hfit] at hr
      injection hr with q1 q2
      rw [← q1] at hk
      exact .inl hk
    · rw [run_append_grow (P := Try.prog) W st ty e i _ ht hi hz ⟨g, 0, none⟩ n cap xs hown.1 (hown.cells (g := g) rfl) ad m c news hl hnews (by omega) (by omega) (growslice_fits_wide (by omega) hbytes)] at hr
      injection hr with q1 q2
      rw [← q1] at hk
      injection hk with hk
      exact .inr (by rw [← hk]; exact Nat.le_refl _)
/-- A list beside a log is appended to; what is appended lies in a block made just now. -/
theorem LogI.push {st e : TypeId} {i : TypeInfo} {z : Value} {size bytes : Nat} (ht : Try.prog.underlying st = some (.slice e)) (hi : Try.prog.info? e = some i) (hz : i.zero = some z) (hsize : i.size = size) (hby : i.bytes = bytes) (hzs : z.cells.size = size) (hsz : 0 < size)
    {B n : Nat} {xs : List Value} {own ks : List (Nat × Obj)} (h : LogI w W g d x t book (own ++ ks)) (hv : Holds B own e size v n xs) (hB : w.heap.size ≤ B) (hB2 : B ≤ W.heap.size) (hap : ∀ p ∈ ks, v.ownBlock ≠ some p.1)
    {m : Nat} {news : List Value} (hm : 0 < m) (hl : news.length = m * size) (h1 : ∀ u ∈ news, u.oneCell' = true) (h63 : n + m ≤ maxLen) (hbytes : ((n + m) + (n + m) / 4 + 192) * bytes ≤ 281474976710656) (ty : TypeId) :
    ∃ v' W' own', (Builtin.append_ #[st, st] ty #[v, .slice (some ⟨W.heap.size, 0, none⟩) m m]).run Try.prog (W.alloc (.cells news.toArray e)) = .ok v' W' ∧ LogI w W' g d x t book (own' ++ ks) ∧ Holds B own' e size v' (n + m) (xs ++ news) ∧ ∀ p ∈ ks, v'.ownBlock ≠ some p.1 := by
  have hnews : ∀ j u, news[j]? = some u → (W.alloc (.cells news.toArray e)).cell? ((⟨W.heap.size, 0, none⟩ : Addr).add j) = some u := fun j u hu => by
    rw [Go.WideShapes.add_plain, Nat.zero_add, cell_of_row _ _ j _ e _ (heap_alloc_new W _), List.getElem?_toArray]
    exact hu
  obtain ⟨v', W', hr, h2, h3, h4⟩ := append_gen ht hi hz hsize hby hzs hsz (World.ownsRow.alloc (h.owns hv) (.cells news.toArray e)) (c := m) hm hl hnews h1 h63 hbytes (by simp only [World.alloc, Array.size_push]; omega) ty
  obtain ⟨own', q1, q2, q3⟩ := h.grown hv hB hap ((Fr.alloc _ W (.cells news.toArray e)).trans h3 fun _ _ q => q) h2 fun k hk => by
    rcases h4 k hk with q | q
    · exact .inl q
    · exact .inr (by simp only [World.alloc, Array.size_push] at q; omega)
  exact ⟨v', W', own', hr, q1, q2, q3⟩
theorem exec_push {o : Oper} {a : Act} {s y : Operand} {st : TypeId} {ad : Addr} {m c : Nat} (ho : o.op = .call { callee := .builtin .append, args := #[s, y], argTypes := #[st, st] }) (hs : a.eval s = v) (hx : a.eval y = .slice (some ad) m c)
    (hr : (Builtin.append_ #[st, st] o.type #[v, .slice (some ad) m c]).run Try.prog W = .ok v' W') : (execOp a.eval o).run Try.prog W = .ok (.value v') W' := by
  simp [execOp, ho, resolve, invoke, builtin, hs, hx, hr, Result.andThen]
theorem wpList_push {ops : Array Oper} {rest : List Oper} {o : Oper} {a : Act} {Q : Exit → Act → World → Prop} {s y : Operand} {st : TypeId} {ad : Addr} {m c : Nat} (hgd : o.guard = none) (ho : o.op = .call { callee := .builtin .append, args := #[s, y], argTypes := #[st, st] }) (hs : a.eval s = v) (hx : a.eval y = .slice (some ad) m c)
    (hr : (Builtin.append_ #[st, st] o.type #[v, .slice (some ad) m c]).run Try.prog W = .ok v' W') (h : wpList Try.prog ops Q rest (a.put o.dst v') W') : wpList Try.prog ops Q (o :: rest) a W := by
  refine wpList_plain hgd fun K' hK' => ?_
  unfold Oper.wp
  simp [execOp, ho, resolve, invoke, builtin, hs, hx, hr, Result.andThen]
  exact hK' _ _ h
end Go.Proofs.Ytahaiciciljijab
