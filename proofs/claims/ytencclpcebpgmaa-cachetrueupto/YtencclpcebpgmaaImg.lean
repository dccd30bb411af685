/- Images as a law builds them: blocks with their numbers, one behind the other; no condition. -/
import Derived.Test.YtencclpcebpgmaaTen
import Derived.Maps.AppendAt
import Derived.Maps.OwnOps
import Derived.Maps.OwnSet
namespace Go.Proofs.Ytencclpcebpgmaa
open Go.RowKit Go.Maps
/-- The cells of a block with its number. -/
def celRow (c : Cel) : List Value := .int .i64 c.1 :: (blk c.2).toList
def celCells (l : List Cel) : List Value := l.flatMap celRow
theorem celRow_len (c : Cel) : (celRow c).length = 1025 := by simp [celRow, blk_size]
theorem celCells_len : ∀ l : List Cel, (celCells l).length = l.length * 1025
  | [] => rfl
  | r :: t => by
    have ih := celCells_len t
    have h1 := celRow_len r
    show (celRow r ++ celCells t).length = _
    rw [List.length_append, ih, h1, List.length_cons]
    omega
theorem celCells_append (a b : List Cel) : celCells (a ++ b) = celCells a ++ celCells b := by simp [celCells]
theorem celCells_one (c : Cel) : celCells [c] = celRow c := by simp [celCells]
theorem celRow_one (c : Cel) : ∀ v ∈ celRow c, v.oneCell' = true := by
  intro v hv
  simp only [celRow, List.mem_cons] at hv
  rcases hv with rfl | h
  · rfl
  · have := blk_one c.2
    rw [Array.all_eq_true_iff_forall_mem] at this
    exact this v (by simpa using h)theorem info85 : (Try.prog.info? 94).map (fun i => (i.zero, i.size, i.bytes)) = some (some (.agg (celRow (0, nought)).toArray), 1025, 1032) := by kernel_rfl
theorem zero85 : ∀ w, (zeroValue 94).run Try.prog w = .ok (.agg (celRow (0, nought)).toArray) w := by
  obtain ⟨i0, hi0, hz0, hz1, hz2⟩ := info_parts info85
  exact (zero_of_info (t := 94) (P := Try.prog) (by rw [hi0]; exact congrArg some (Prod.ext hz0 hz1))).1
theorem size85 : (Try.prog.info? 94).map (·.size) = some 1025 := by
  obtain ⟨i0, hi0, hz0, hz1, hz2⟩ := info_parts info85
  rw [hi0]
  exact congrArg some hz1
theorem cel_size (c : Cel) : (celRow c).toArray.size = 1025 := by rw [List.size_toArray, celRow_len]
theorem fill_cel (p : Int) (f : Nat → Int) (Z : Array Value) (hZ : Z.size = 1025) (place : Nat → Option (Nat × Nat)) (h0 : place 0 = some (0, 1)) (h1 : place 1 = some (1, 1024)) :
    Instr.fill place Z [(0, .int .i64 p), (1, .agg (blk f))] = some (celRow (p, f)).toArray := by
  have hb := blk_size f
  unfold Instr.fill
  rw [h0]
  simp only [Value.cells, List.size_toArray, List.length_cons, List.length_nil, hZ]
  rw [if_neg (by simp)]
  unfold Instr.fill
  rw [h1]
  simp only [Value.cells, hb]
  rw [fold_over 0 #[.int .i64 p] Z (by rw [hZ]; simp)]
  rw [if_neg (by simp [hZ])]
  rw [fold_over 1 (blk f) _ (by simp [hZ, hb])]
  have hl : Z.toList.length = 1025 := by rw [Array.length_toList, hZ]
  obtain ⟨z0, r, hz, hr⟩ : ∃ z0 r, Z.toList = z0 :: r ∧ r.length = 1024 := by
    cases hz : Z.toList with
    | nil => rw [hz, List.length_nil] at hl; omega
    | cons z0 r => exact ⟨z0, r, rfl, by rw [hz, List.length_cons] at hl; omega⟩
  rw [hz]
  simp only [List.take_zero, List.nil_append, List.take_succ_cons, List.drop_succ_cons, List.drop_zero, List.singleton_append, List.size_toArray, List.length_cons, List.length_nil, hb, Nat.zero_add, Nat.reduceAdd]
  unfold Instr.fill
  rw [List.drop_eq_nil_of_le (by omega), List.append_nil]
  rfl
theorem build85 (p : Int) (f : Nat → Int) (u : World) : (Instr.build 94 #[(0, .int .i64 p), (1, .agg (blk f))]).run Try.prog u = .ok (.agg (celRow (p, f)).toArray) u := by
  have z := zero85
  have hZ : (celRow (0, nought)).toArray.size = 1025 := cel_size _
  generalize (celRow (0, nought)).toArray = Z at *
  have hf := fill_cel p f Z hZ
  simp [Instr.build, z, run_underlying Try.underlying94, Value.cells]
  rw [hf _ rfl rfl]
  simp only [Sem.run_pure]
theorem wpList_build85 {ops : Array Oper} {rest : List Oper} {o : Oper} {a : Act} {w : World} {Q : Exit → Act → World → Prop} (hgd : o.guard = none) (x y : Operand) (ho : o.op = .build 94 #[(0, x), (1, y)])
    (p : Int) (f : Nat → Int) (hx : a.eval x = .int .i64 p) (hy : a.eval y = .agg (blk f)) (h : wpList Try.prog ops Q rest (a.put o.dst (.agg (celRow (p, f)).toArray)) w) : wpList Try.prog ops Q (o :: rest) a w :=
  wpList_plain hgd fun _ hK => by
    have e := build85 p f w
    generalize (celRow (p, f)).toArray = Z at *
    have e' : (execOp a.eval o).run Try.prog w = .ok (.value (.agg Z)) w := by simp [execOp, ho, hx, hy, e]
    unfold Oper.wp
    rw [e']
    exact hK _ _ h
theorem build30 (c : Cel) (u : World) : (Instr.buildSlice 90 1 #[(0, .agg (celRow c).toArray)]).run Try.prog u = .ok (.slice (some ⟨u.heap.size, 0, none⟩) 1 1) (u.alloc (.cells (celRow c).toArray 94)) :=
  build1 90 94 1025 _ _ Try.underlying90 Try.sizeOf94 (by omega) zero85 (cel_size c) u
theorem slice_ofC {w : World} {base e size : Nat} {v : Value} {n : Nat} {xs : List Value} (h : w.ownsRow base e size v n xs) (hn : 0 < n) : ∃ g cap, v = .slice (some ⟨g, 0, none⟩) n cap := by
  rcases h.2 with ⟨_, h⟩ | ⟨g, cap', _, h, _⟩
  · omega
  · exact ⟨g, cap', h⟩
theorem fm_len {α : Type} (row : α → List Value) (n : Nat) (hr : ∀ x, (row x).length = n) : ∀ l : List α, (l.flatMap row).length = l.length * n
  | [] => by simp
  | x :: t => by rw [List.flatMap_cons, List.length_append, hr x, fm_len row n hr t, List.length_cons, Nat.add_mul]; omega
theorem fm_get {α : Type} (row : α → List Value) (n : Nat) (hr : ∀ x, (row x).length = n) : ∀ (l : List α) (i j : Nat) (r : α), l[i]? = some r → j < n → (l.flatMap row)[i * n + j]? = (row r)[j]?
  | [], i, j, r, h, _ => by simp at h
  | x :: t, 0, j, r, h, hj => by
    have h' : x = r := by simpa using h
    subst h'
    rw [List.flatMap_cons, Nat.zero_mul, Nat.zero_add, List.getElem?_append_left (by rw [hr]; exact hj)]
  | x :: t, i + 1, j, r, h, hj => by
    have h' : t[i]? = some r := by simpa using h
    rw [List.flatMap_cons, List.getElem?_append_right (by rw [hr, Nat.add_mul]; omega), hr, show (i + 1) * n + j - n = i * n + j by rw [Nat.add_mul]; omega]
    exact fm_get row n hr t i j r h' hj
/-- An element of a list of blocks with numbers in memory. -/
theorem cel_at {w : World} {base g n cap : Nat} {l : List Cel} (h : w.ownsRow base 94 1025 (.slice (some ⟨g, 0, none⟩) n cap) n (celCells l)) {k K : Nat} {c : Cel} (hK : K = k * 1025) (hk : l[k]? = some c) :
    w.cell? ⟨g, K, none⟩ = some (.int .i64 c.1) ∧ BlkAt w g (K + 1) c.2 := by
  have hc := h.cells (g := g) rfl
  have key : ∀ j, j < 1025 → ∀ v, (celRow c)[j]? = some v → w.cell? ⟨g, K + j, none⟩ = some v := fun j hj v hv => by
    have q0 := (fm_get celRow 1025 celRow_len l k j c hk hj).trans hv
    rw [← hK] at q0
    have q := hc (K + j) v q0
    rwa [Go.WideShapes.add_plain, Nat.zero_add] at q
  clear hK hk hc h
  refine ⟨key 0 (by omega) _ rfl, fun j v hv => ?_⟩
  have hj : j < 1024 := by have := (List.getElem?_eq_some_iff.1 hv).1; rwa [blk_list_len] at this
  rw [Nat.add_assoc, Nat.add_comm 1 j]
  refine key (j + 1) (by omega) v ?_
  rw [show (celRow c)[j + 1]? = (blk c.2).toList[j]? by simp only [celRow, List.getElem?_cons_succ]]
  exact hv
theorem neq58 (f g : Nat → Int) (b : Bool) (hb : sameB f g = b) (u : World) : (binOp .neq 59 (.agg (blk f)) (.agg (blk g))).run Try.prog u = .ok (.bool (!b)) u := by
  have h := eq25 f g u
  rw [hb] at h
  generalize blk f = F at *
  generalize blk g = G at *
  simp only [binOp, Op.equal, Op.maxDepth, Sem.run_bind, h, Result.andThen_ok, Sem.run_pure]
theorem neqg58 (x y : Operand) (F G : Array Value) (u : World) : (eqGuard .neq 59 x y (.agg F) (.agg G)).run Try.prog u = .ok () u := by
  unfold eqGuard
  simp
theorem wpList_pushC {ops : Array Oper} {rest : List Oper} {o : Oper} {a : Act} {W : World} {Q : Exit → Act → World → Prop} (hgd : o.guard = none) (x y : Operand)
    (ho : o.op = .call { callee := .builtin .append, args := #[x, y], argTypes := #[90, 90] }) (B : Nat) (v : Value) (wl : List Cel) (c : Cel) (hx : a.eval x = v)
    (hy : a.eval y = .slice (some ⟨W.heap.size, 0, none⟩) 1 1) (hown : W.ownsRow B 94 1025 v wl.length (celCells wl)) (hB : B ≤ W.heap.size) (hn : wl.length < 1000)
    (h : ∀ v' W', W'.ownsRow B 94 1025 v' (wl ++ [c]).length (celCells (wl ++ [c])) → (W.alloc (.cells (celRow c).toArray 94)).grownBy W' v.ownBlock → Below B W W' → (∀ k, v'.ownBlock = some k → v.ownBlock = some k ∨ W.heap.size < k) → wpList Try.prog ops Q rest (a.put o.dst v') W') :
    wpList Try.prog ops Q (o :: rest) a (W.alloc (.cells (celRow c).toArray 94)) := by
  obtain ⟨i0, hi0, hz0, hz1, hz2⟩ := info_parts info85
  have hown1 := World.ownsRow.alloc hown (.cells (celRow c).toArray 94)
  have hnews : ∀ j u, (celRow c)[j]? = some u → (W.alloc (.cells (celRow c).toArray 94)).cell? ((⟨W.heap.size, 0, none⟩ : Addr).add j) = some u := fun j u hu => by
    rw [Go.WideShapes.add_plain, Nat.zero_add, cell_of_row _ _ j _ 94 _ (heap_alloc_new W _), List.getElem?_toArray]
    exact hu
  refine wpList_append_own_at _ hgd x y 90 ho B 94 i0 _ 1025 1032 Try.underlying90 hi0 hz0 hz1 hz2 (cel_size _) (by decide) v wl.length (celCells wl) hx hown1 ⟨W.heap.size, 0, none⟩ 1 1 (celRow c) hy (by rw [celRow_len]) hnews (celRow_one c)
    (by unfold maxLen; omega) (by omega) (by simp; omega) ?_
  intro v' W' h1 h2 h3 h4
  refine h v' W' (by rw [List.length_append, celCells_append, celCells_one]; exact h1) h2 (((Below.refl _ _).alloc hB _).grown h2 (by simp; omega) fun k hk => (World.ownsRow.lt hown k hk).1) fun k hk => ?_
  rcases h4 with q | q
  · exact .inl (q ▸ hk)
  · rw [q] at hk
    injection hk with hk
    simp at hk
    exact .inr (by omega)
theorem info59b : (Try.prog.info? 59).map (fun i => (i.zero, i.size, i.bytes)) = some (some (.agg (blk nought)), 1024, 1024) := by kernel_rfl
theorem build49 (f : Nat → Int) (u : World) : (Instr.buildSlice 49 1 #[(0, .agg (blk f))]).run Try.prog u = .ok (.slice (some ⟨u.heap.size, 0, none⟩) 1 1) (u.alloc (.cells (blk f) 59)) :=
  build1 49 59 1024 _ _ Try.underlying49 Try.sizeOf59 (by omega) zero25 (blk_size f) u
/-- A list of so many blocks, whatever they are. -/
def Blocks (w : World) (B : Nat) (v : Value) (n : Nat) : Prop := ∃ cs, w.ownsRow B 59 1024 v n cs
theorem blk_ones (f : Nat → Int) : ∀ v ∈ (blk f).toList, v.oneCell' = true := by
  intro v hv
  have := blk_one f
  rw [Array.all_eq_true_iff_forall_mem] at this
  exact this v (by simpa using hv)
theorem wpList_pushB {ops : Array Oper} {rest : List Oper} {o : Oper} {a : Act} {W : World} {Q : Exit → Act → World → Prop} (hgd : o.guard = none) (x y : Operand)
    (ho : o.op = .call { callee := .builtin .append, args := #[x, y], argTypes := #[49, 49] }) (B : Nat) (v : Value) (n : Nat) (f : Nat → Int) (hx : a.eval x = v)
    (hy : a.eval y = .slice (some ⟨W.heap.size, 0, none⟩) 1 1) (hown : Blocks W B v n) (hB : B ≤ W.heap.size) (hn : n < 1000)
    (h : ∀ v' W', Blocks W' B v' (n + 1) → (W.alloc (.cells (blk f) 59)).grownBy W' v.ownBlock → Below B W W' → (∀ k, v'.ownBlock = some k → v.ownBlock = some k ∨ W.heap.size < k) → wpList Try.prog ops Q rest (a.put o.dst v') W') :
    wpList Try.prog ops Q (o :: rest) a (W.alloc (.cells (blk f) 59)) := by
  obtain ⟨i0, hi0, hz0, hz1, hz2⟩ := info_parts info59b
  obtain ⟨cs, hown⟩ := hown
  have hown1 := World.ownsRow.alloc hown (.cells (blk f) 59)
  have hnews : ∀ j u, (blk f).toList[j]? = some u → (W.alloc (.cells (blk f) 59)).cell? ((⟨W.heap.size, 0, none⟩ : Addr).add j) = some u := fun j u hu => by
    rw [Go.WideShapes.add_plain, Nat.zero_add, cell_of_row _ _ j _ 59 _ (heap_alloc_new W _)]
    simpa using hu
  refine wpList_append_own_at _ hgd x y 49 ho B 59 i0 _ 1024 1024 Try.underlying49 hi0 hz0 hz1 hz2 (blk_size _) (by decide) v n cs hx hown1 ⟨W.heap.size, 0, none⟩ 1 1 (blk f).toList hy (by rw [blk_list_len]) hnews (blk_ones f)
    (by unfold maxLen; omega) (by omega) (by simp; omega) ?_
  intro v' W' h1 h2 h3 h4
  refine h v' W' ⟨_, h1⟩ h2 (((Below.refl _ _).alloc hB _).grown h2 (by simp; omega) fun k hk => (World.ownsRow.lt hown k hk).1) fun k hk => ?_
  rcases h4 with q | q
  · exact .inl (q ▸ hk)
  · rw [q] at hk
    injection hk with hk
    simp at hk
    exact .inr (by omega)
end Go.Proofs.Ytencclpcebpgmaa
