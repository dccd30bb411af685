/- Lists of blocks with their numbers that grow; copies of them; of fewer bytes than memory has. -/
import Derived.Test.YtglcliokhlafoaaPhase
import Derived.Test.YtglcliokhlafoaaPuts
namespace Go.Proofs.Ytglcliokhlafoaa
open Go.RowKit Go.Maps
section
variable {w W W' : World} {v v' : Value}
theorem append_gen {st e : TypeId} {i : TypeInfo} {z : Value} {size bytes : Nat} (ht : Try.prog.underlying st = some (.slice e)) (hi : Try.prog.info? e = some i) (hz : i.zero = some z) (hsize : i.size = size) (hby : i.bytes = bytes) (hzs : z.cells.size = size) (hsz : 0 < size)
    {B : Nat} {n : Nat} {xs : List Value} (hown : W.ownsRow B e size v n xs) {ad : Addr} {m c : Nat} {news : List Value} (hm : 0 < m) (hl : news.length = m * size)
    (hnews : ∀ j u, news[j]? = some u → W.cell? (ad.add j) = some u) (h1 : ∀ u ∈ news, u.oneCell' = true) (h63 : n + m ≤ maxLen) (hbytes : ((n + m) + (n + m) / 4 + 192) * bytes ≤ 281474976710656) (hB : B ≤ W.heap.size) (ty : TypeId) :
    ∃ v' w', (Builtin.append_ #[st, st] ty #[v, .slice (some ad) m c]).run Try.prog W = .ok v' w' ∧ w'.ownsRow B e size v' (n + m) (xs ++ news) ∧ Fr (fun k => v.ownBlock = some k) W w' ∧ ∀ k, v'.ownBlock = some k → v.ownBlock = some k ∨ W.heap.size ≤ k := by
  obtain ⟨v', w', hr, h2, hg, _⟩ := run_append_own_wide (P := Try.prog) W B st ty e i z size bytes ht hi hz hsize hby hzs hsz v n xs hown ad m c news hl hnews h1 h63 hbytes hB
  refine ⟨v', w', hr, h2, Fr.ofGrown hg, fun k hk => ?_⟩
  have hmx : n + m ≤ 9223372036854775807 := by simp only [maxLen] at h63; omega
  have hmb : m * i.bytes ≤ 281474976710656 := by
    rw [hby]
    exact Nat.le_trans (Nat.mul_le_mul_right _ (by omega)) hbytes
  subst hsize
  subst hby
  rcases hown.2 with ⟨rfl, rfl⟩ | ⟨g, cap, cur, rfl, _, hg', hnc, hcm, hcs, htake⟩
  · rw [run_append_nil (P := Try.prog) W st ty e i _ ht hi hz ad m c news hl hnews hm (by omega) hmb] at hr
    injection hr with q1 q2
    rw [← q1] at hk
    injection hk with hk
    exact .inr (by rw [← hk]; exact Nat.le_refl _)
  · by_cases hroom : n + m ≤ cap
    · have hfit : n * i.size + news.length ≤ cur.size := by rw [hl, hcs, ← Nat.add_mul]; exact Nat.mul_le_mul_right _ hroom
      rw [run_append_room (P := Try.prog) W st ty e i ht hi g n cap cur hg' ad m c news hl hnews h1 hroom hfit] at hr
      injection hr with q1 q2
      rw [← q1] at hk
      exact .inl hk
    · rw [run_append_grow (P := Try.prog) W st ty e i _ ht hi hz ⟨g, 0, none⟩ n cap xs hown.1 (hown.cells (g := g) rfl) ad m c news hl hnews (by omega) (by omega) (growslice_fits_wide (by omega) hbytes)] at hr
      injection hr with q1 q2
      rw [← q1] at hk
      injection hk with hk
      exact .inr (by rw [← hk]; exact Nat.le_refl _)
theorem exec_push {o : Oper} {a : Act} {s y : Operand} {st : TypeId} {ad : Addr} {m c : Nat} (ho : o.op = .call { callee := .builtin .append, args := #[s, y], argTypes := #[st, st] }) (hs : a.eval s = v) (hx : a.eval y = .slice (some ad) m c)
    (hr : (Builtin.append_ #[st, st] o.type #[v, .slice (some ad) m c]).run Try.prog W = .ok v' W') : (execOp a.eval o).run Try.prog W = .ok (.value v') W' := by
  simp [execOp, ho, resolve, invoke, builtin, hs, hx, hr, Result.andThen]
theorem build30 (c : Cel) (u : World) : (Instr.buildSlice 22 1 #[(0, .agg (celRow c).toArray)]).run Try.prog u = .ok (.slice (some ⟨u.heap.size, 0, none⟩) 1 1) (u.alloc (.cells (celRow c).toArray 59)) :=
  build1 22 59 1025 _ _ Try.underlying22 Try.sizeOf59 (by omega) zero85 (cel_size c) u
section
variable {o : Oper} {a : Act}
theorem exec_mv {x : Operand} {v : Value} (ho : o.op = .move x) (hx : a.eval x = v) : (execOp a.eval o).run Try.prog W = .ok (.value v) W := by
  unfold execOp
  simp [ho, hx]
theorem exec_slice85 {y : Operand} {c : Cel} (ho : o.op = .buildSlice 22 1 #[(0, y)]) (hy : a.eval y = .agg (celRow c).toArray) : (execOp a.eval o).run Try.prog W = .ok (.value (.slice (some ⟨W.heap.size, 0, none⟩) 1 1)) (W.alloc (.cells (celRow c).toArray 59)) := by
  have e := build30 c W
  generalize (celRow c).toArray = Z at *
  simp [execOp, ho, hy, e]
theorem exec_build85 {x y : Operand} {p : Int} {f : Nat → Int} (ho : o.op = .build 59 #[(0, x), (1, y)]) (hx : a.eval x = .int .i64 p) (hy : a.eval y = .agg (blk f)) : (execOp a.eval o).run Try.prog W = .ok (.value (.agg (celRow (p, f)).toArray)) W := by
  have e := build85 p f W
  generalize (celRow (p, f)).toArray = Z at *
  generalize blk f = Y at *
  simp [execOp, ho, hx, hy, e]
theorem exec_load85 {x : Operand} {g off : Nat} {c : Cel} (ho : o.op = .load 59 x) (hx : a.eval x = .pointer (some ⟨g, off, none⟩)) (hc : CelAt W g off c) : (execOp a.eval o).run Try.prog W = .ok (.value (.agg (celRow c).toArray)) W := by
  have e := load85 hc
  generalize (celRow c).toArray = Z at *
  unfold execOp
  simp only [ho, hx, e, Sem.run_bind, Result.andThen_ok, Sem.run_pure]
theorem wpList_exec {ops : Array Oper} {rest : List Oper} {Q : Exit → Act → World → Prop} {v : Value} {W' : World} (hgd : o.guard = none) (hr : (execOp a.eval o).run Try.prog W = .ok (.value v) W') (h : wpList Try.prog ops Q rest (a.put o.dst v) W') : wpList Try.prog ops Q (o :: rest) a W := by
  refine wpList_plain hgd fun K' hK' => ?_
  unfold Oper.wp
  rw [hr]
  exact hK' _ _ h
end
/-- A list of blocks with their numbers, made since B. -/
def HL (B : Nat) (W : World) (v : Value) (l : List Cel) : Prop := W.ownsRow B 59 1025 v l.length (celCells l)
theorem HL.img {B : Nat} {l : List Cel} (h : HL B W v l) : ∃ p c, v = .slice p l.length c ∧ ImgAt W p l ∧ l.length ≤ c ∧ (∀ b off, p = some ⟨b, off, none⟩ → B ≤ b ∧ b < W.heap.size ∧ off = 0) := by
  have h' := h
  rcases h.2 with ⟨h1, h2⟩ | ⟨g, cap, cur, h1, hB, hg, hnc, _, hcs, ht⟩
  · exact ⟨none, 0, by rw [h1, h2], fun q => by omega, by omega, fun _ _ q => by cases q⟩
  · have hlt := (Array.getElem?_eq_some_iff.1 hg).1
    subst h1
    refine ⟨some ⟨g, 0, none⟩, cap, rfl, fun _ => ⟨g, 0, rfl, hlt, fun k c hc => ?_⟩, hnc, fun b off q => ?_⟩
    · have q := cel_at h' (K := 0 + k * 1025) (by omega) hc
      exact q
    · injection q with q
      injection q with q1 q2
      exact ⟨by omega, by omega, by omega⟩
theorem celCells_snoc (l : List Cel) (c : Cel) : celCells (l ++ [c]) = celCells l ++ celRow c := by simp [celCells]
theorem HL.nil (B : Nat) (W : World) : HL B W (.slice none 0 0) [] := ⟨rfl, .inl ⟨rfl, rfl⟩⟩
theorem HL.push {B : Nat} {l : List Cel} (h : HL B W v l) (hB : B ≤ W.heap.size) (hl : l.length ≤ 100000000) (c : Cel) (ty : TypeId) :
    ∃ v' W', (Builtin.append_ #[22, 22] ty #[v, .slice (some ⟨W.heap.size, 0, none⟩) 1 1]).run Try.prog (W.alloc (.cells (celRow c).toArray 59)) = .ok v' W' ∧ HL B W' v' (l ++ [c]) ∧ Below B W W' ∧ Fr (fun k => v.ownBlock = some k) W W' ∧ ∀ k, v'.ownBlock = some k → v.ownBlock = some k ∨ W.heap.size ≤ k := by
  obtain ⟨i0, hi0, hz0, hz1, hz2⟩ := info_parts info85
  have hnews : ∀ j u, (celRow c)[j]? = some u → (W.alloc (.cells (celRow c).toArray 59)).cell? ((⟨W.heap.size, 0, none⟩ : Addr).add j) = some u := fun j u hu => by
    rw [Go.WideShapes.add_plain, Nat.zero_add, cell_of_row _ _ j _ 59 _ (heap_alloc_new W _), List.getElem?_toArray]
    exact hu
  obtain ⟨v', W', hr, h2, h3, h4⟩ := append_gen Try.underlying22 hi0 hz0 hz1 hz2 (cel_size (0, nought)) (by omega) (World.ownsRow.alloc h (.cells (celRow c).toArray 59)) (ad := ⟨W.heap.size, 0, none⟩) (m := 1) (c := 1) (news := celRow c) (by omega) (by rw [celRow_len]) hnews (celRow_one c) (by unfold maxLen; omega) (by omega) (by simp only [World.alloc, Array.size_push]; omega) ty
  have hF : Fr (fun k => v.ownBlock = some k) W W' := (Fr.alloc _ W (.cells (celRow c).toArray 59)).trans h3 fun _ _ q => q
  refine ⟨v', W', hr, ?_, hF.below (fun i q => (h.lt i q).1) hB, hF, fun k hk => ?_⟩
  · unfold HL
    rw [celCells_snoc, List.length_append]
    exact h2
  · rcases h4 k hk with q | q
    · exact .inl q
    · exact .inr (by simp only [World.alloc, Array.size_push] at q; omega)
end
end Go.Proofs.Ytglcliokhlafoaa
