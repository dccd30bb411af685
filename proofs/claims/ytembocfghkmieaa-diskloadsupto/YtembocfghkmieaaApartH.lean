/- Lists of blocks with their numbers, written over with marks and gone on with: what they are then; each as long as its memory. -/
import Derived.Test.YtembocfghkmieaaHList
import Derived.Test.YtembocfghkmieaaSameH
import Derived.Deep.DeepAppendWide
namespace Go.Proofs.Ytembocfghkmieaa
open Go.RowKit Go.Maps
/-- Mark i of list k. -/
def markC (k : Int) (i : Nat) : Cel := (-1000 * k - (i : Int) - 7, nought)
def marksL (k : Int) (n : Nat) : List Cel := (List.range n).map (markC k)
theorem marksL_len (k : Int) (n : Nat) : (marksL k n).length = n := by simp [marksL]
theorem marksL_succ (k : Int) (n : Nat) : marksL k (n + 1) = marksL k n ++ [markC k n] := by simp [marksL, List.range_succ]
theorem marksL_get (k : Int) (n i : Nat) (h : i < n) : (marksL k n)[i]? = some (markC k i) := by simp [marksL, h]
/-- l, its first i as marks. -/
def asMarks (k : Int) (l : List Cel) (i : Nat) : List Cel := marksL k i ++ l.drop i
theorem asMarks_len (k : Int) (l : List Cel) (i : Nat) (h : i ≤ l.length) : (asMarks k l i).length = l.length := by
  unfold asMarks
  rw [List.length_append, marksL_len, List.length_drop]
  omega
theorem asMarks_set (k : Int) (l : List Cel) (i : Nat) (h : i < l.length) : (asMarks k l i).set i (markC k i) = asMarks k l (i + 1) := by
  unfold asMarks
  rw [marksL_succ, List.set_append_right _ _ (by rw [marksL_len]; omega), marksL_len, Nat.sub_self, List.drop_eq_getElem_cons h, List.set_cons_zero, List.append_assoc]
  rfl
theorem asMarks_full (k : Int) (l : List Cel) : asMarks k l l.length = marksL k l.length := by unfold asMarks; rw [List.drop_length, List.append_nil]
theorem asMarks_zero (k : Int) (l : List Cel) : asMarks k l 0 = l := by unfold asMarks marksL; simp
theorem putCel_set (l : List Cel) (i : Nat) (c : Cel) (h : i < l.length) : putCel (celCells l).toArray (i * 1025) c = (celCells (l.set i c)).toArray := by
  have e : l = l.take i ++ l[i] :: l.drop (i + 1) := by rw [← List.drop_eq_getElem_cons h, List.take_append_drop]
  have hs : l.set i c = l.take i ++ c :: l.drop (i + 1) := List.set_eq_take_append_cons_drop.trans (if_pos h)
  have hl : (celCells (l.take i)).length = i * 1025 := by rw [celCells_len, List.length_take, Nat.min_eq_left (by omega)]
  have hcc : ∀ (x : Cel) (t : List Cel), celCells (x :: t) = celRow x ++ celCells t := fun x t => by simp [celCells]
  unfold putCel
  rw [hs, celCells_append, hcc, List.toList_toArray]
  have e2 : celCells l = celCells (l.take i) ++ (celRow l[i] ++ celCells (l.drop (i + 1))) := by
    rw [← hcc, ← celCells_append, ← e]
  rw [e2, ← hl, List.take_left, List.drop_append, List.drop_of_length_le (by omega), show (celCells (l.take i)).length + 1025 - (celCells (l.take i)).length = (celRow l[i]).length by rw [celRow_len]; omega, List.drop_left, List.nil_append, List.append_assoc]
theorem run_store85 {w : World} {g off : Nat} {c : Cel} {cur : Array Value} (hg : w.heap[g]? = some (.cells cur 85)) (hfit : off + 1025 ≤ cur.size) :
    (Instr.storeAt 85 (.pointer (some ⟨g, off, none⟩)) (.agg (celRow c).toArray)).run Try.prog w = .ok () (w.setRow g (putCel cur off c)) := by
  have hl := celRow_len c
  have hst := run_storeCells_at Try.prog g off 85 (celRow c) 0 cur w hg (by rw [hl]; omega) (celRow_one c)
  rw [hl] at hst
  obtain ⟨i0, hi0, hz0, hz1, hz2⟩ := info_parts info85
  simp only [Nat.add_zero] at hst
  unfold putCel
  generalize celRow c = R at *
  simp [Instr.storeAt, Instr.sureAddr, storeVar, sizeOf, typeInfo, hi0, Value.cells, hl, hz1, hst]
theorem wpOrd_store85 {ops : Array Oper} {Q : Exit → Act → World → Prop} {S : World → Prop} {r : List (Bool × Oper)} {a : Act} {w : World} {o : Oper} (hw : Region.wanted o (yielded ops a.tmps) = true) (x y : Operand) (ho : o.op = .store 85 x y)
    (g off : Nat) (c : Cel) (cur : Array Value) (hx : a.eval x = .pointer (some ⟨g, off, none⟩)) (hy : a.eval y = .agg (celRow c).toArray) (hg : w.heap[g]? = some (.cells cur 85)) (hfit : off + 1025 ≤ cur.size)
    (h : S (w.setRow g (putCel cur off c)) ∧ wpOrd Try.prog ops Q S r (a.put o.dst undef) (w.setRow g (putCel cur off c))) : wpOrd Try.prog ops Q S ((false, o) :: r) a w := by
  have hr := run_store85 (c := c) hg hfit
  generalize (celRow c).toArray = Z at *
  refine wpOrd_do hw ?_ h.1 h.2
  unfold execOp
  simp only [ho, hx, hy, Sem.run_bind, hr, Result.andThen_ok, Sem.run_pure]
section
variable (K gl : Nat) (g ns : Nat → Nat) (w0 : World)
/-- The lists' blocks. -/
def TG (i : Nat) : Prop := ∃ k, k < K ∧ i = g k
/-- The lists' row, the lists; nothing else has turned. -/
structure ListsH (fs : Nat → List Cel) (w : World) : Prop where
  fr : Fr (TG K g) w0 w
  head : ∀ k, k < K → w.cell? ⟨gl, k, none⟩ = some (.slice (some ⟨g k, 0, none⟩) (ns k) (ns k))
  row : ∀ k, k < K → w.heap[g k]? = some (.cells (celCells (fs k)).toArray 85)
end
/-- Some are written full, one as far as i. -/
def upToH (fs : Nat → List Cel) (k i : Nat) : Nat → List Cel := fun j => if j < k then marksL (j + 10) (fs j).length else if j = k then asMarks (j + 10) (fs j) i else fs j
theorem ListsH.later {K gl : Nat} {g ns : Nat → Nat} {w0 w w' : World} {fs : Nat → List Cel} (h : ListsH K gl g ns w0 fs w) (hb : Below w.heap.size w w') : ListsH K gl g ns w0 fs w' :=
  ⟨h.fr.trans (Fr.ofBelow (T := TG K g) hb) (fun _ _ q => q), fun k hk => (hb.cell (p := ⟨gl, k, none⟩) (block_lt_of_cell (h.head k hk))).trans (h.head k hk), fun k hk => (hb.block (g k) (Array.getElem?_eq_some_iff.1 (h.row k hk)).1).trans (h.row k hk)⟩
theorem ListsH.store {K gl : Nat} {g ns : Nat → Nat} {w0 w : World} {fs : Nat → List Cel} {k i : Nat} (h : ListsH K gl g ns w0 (upToH fs k i) w) (hk : k < K) (hgl : gl ≠ g k)
    (hd : ∀ j, j < K → j ≠ k → g j ≠ g k) (hi : i < (fs k).length) : ListsH K gl g ns w0 (upToH fs k (i + 1)) (w.setRow (g k) (putCel (celCells (asMarks ((k : Int) + 10) (fs k) i)).toArray (i * 1025) (markC ((k : Int) + 10) i))) := by
  refine ⟨h.fr.trans (Fr.setRow w (g k) _) (fun i _ e => ⟨k, hk, e⟩), fun j hj => ?_, fun j hj => ?_⟩
  · exact (World.cell?_of_block (a := ⟨gl, j, none⟩) (setRow_other w (g k) gl _ hgl)).trans (h.head j hj)
  · by_cases e : j = k
    · subst e
      rw [setRow_heap _ _ _ _ _ _ (h.row j hj), putCel_set _ _ _ (by rw [asMarks_len _ _ _ (by omega)]; exact hi), asMarks_set _ _ _ hi]
      unfold upToH
      rw [if_neg (by omega), if_pos rfl]
    · rw [setRow_other w (g k) (g j) _ (hd j hj e), h.row j hj]
      have : upToH fs k i j = upToH fs k (i + 1) j := by unfold upToH; simp [e]
      rw [this]
theorem ListsH.next {K gl : Nat} {g ns : Nat → Nat} {w0 w : World} {fs : Nat → List Cel} {k : Nat} (h : ListsH K gl g ns w0 (upToH fs k (fs k).length) w) : ListsH K gl g ns w0 (upToH fs (k + 1) 0) w := by
  refine ⟨h.fr, h.head, fun j hj => ?_⟩
  rw [h.row j hj]
  have : upToH fs k (fs k).length j = upToH fs (k + 1) 0 j := by
    unfold upToH
    by_cases h1 : j < k
    · rw [if_pos h1, if_pos (by omega)]
    · by_cases h2 : j = k
      · subst h2
        rw [if_neg h1, if_pos rfl, if_pos (by omega), asMarks_full]
      · rw [if_neg h1, if_neg h2, if_neg (by omega)]
        by_cases h3 : j = k + 1
        · rw [if_pos h3, asMarks_zero]
        · rw [if_neg h3]
  rw [this]
theorem ownsRow_later {w w' : World} {base e size : Nat} {v : Value} {n : Nat} {xs : List Value} (h : w.ownsRow base e size v n xs) (hb : Below w.heap.size w w') : w'.ownsRow base e size v n xs := by
  obtain ⟨h1, h2⟩ := h
  refine ⟨h1, ?_⟩
  rcases h2 with h2 | ⟨g, cap, cur, hv, hg, hh, r⟩
  · exact .inl h2
  · exact .inr ⟨g, cap, cur, hv, hg, (hb.block g (Array.getElem?_eq_some_iff.1 hh).1).trans hh, r⟩
/-- A list without room is appended to: what lay there stays, what comes is new. -/
theorem first_push {W : World} {g n : Nat} {l : List Cel} {c : Cel} (hn : l.length = n) (hg : W.heap[g]? = some (.cells (celCells l).toArray 85)) (hl : n ≤ 100000000) (ty : TypeId) :
    ∃ v' W', (Builtin.append_ #[30, 30] ty #[.slice (some ⟨g, 0, none⟩) n n, .slice (some ⟨W.heap.size, 0, none⟩) 1 1]).run Try.prog (W.alloc (.cells (celRow c).toArray 85)) = .ok v' W' ∧ HL W.heap.size W' v' (l ++ [c]) ∧ Below W.heap.size W W' := by
  obtain ⟨i0, hi0, hz0, hz1, hz2⟩ := info_parts info85
  have hlt : g < W.heap.size := (Array.getElem?_eq_some_iff.1 hg).1
  have hg' : (W.alloc (.cells (celRow c).toArray 85)).heap[g]? = some (.cells (celCells l).toArray 85) := (Below.heap_alloc W _ g hlt).trans hg
  have hb : ((n + 1) + (n + 1) / 4 + 192) * i0.bytes ≤ 281474976710656 := by rw [hz2]; omega
  have hold : ∀ j u, (celCells l)[j]? = some u → (W.alloc (.cells (celRow c).toArray 85)).cell? ((⟨g, 0, none⟩ : Addr).add j) = some u := fun j u hu => by
    rw [Go.WideShapes.add_plain, Nat.zero_add, cell_of_row _ g j _ 85 _ hg', List.getElem?_toArray]
    exact hu
  have hnew : ∀ j u, (celRow c)[j]? = some u → (W.alloc (.cells (celRow c).toArray 85)).cell? ((⟨W.heap.size, 0, none⟩ : Addr).add j) = some u := fun j u hu => by
    rw [Go.WideShapes.add_plain, Nat.zero_add, cell_of_row _ _ j _ 85 _ (heap_alloc_new W _), List.getElem?_toArray]
    exact hu
  have hr := run_append_grow (P := Try.prog) (W.alloc (.cells (celRow c).toArray 85)) 30 ty 85 i0 _ Try.underlying30 hi0 hz0 ⟨g, 0, none⟩ n n (celCells l) (by rw [celCells_len, hz1, hn]) hold ⟨W.heap.size, 0, none⟩ 1 1 (celRow c) (by rw [celRow_len, hz1]) hnew (by omega) (by omega) (growslice_fits_wide (by omega) hb)
  have h63 : n + 1 ≤ maxLen := by unfold maxLen; omega
  have hge := grownCap_ge (W.alloc (.cells (celRow c).toArray 85)) (n + 1) n 85
  have hcm := grownCap_le_maxLen (W.alloc (.cells (celRow c).toArray 85)) (n + 1) n 85 h63
  generalize hW1 : W.alloc (.cells (celRow c).toArray 85) = W1 at *
  have hsz1 : W1.heap.size = W.heap.size + 1 := by rw [← hW1]; simp
  have hb1 : Below W.heap.size W W1 := by rw [← hW1]; exact (Below.refl _ _).alloc (Nat.le_refl _) _
  have hlen : (celCells l ++ celRow c).length = (n + 1) * 1025 := by rw [List.length_append, celCells_len, celRow_len, hn]; omega
  have hzz : (Value.agg (celRow (0, nought)).toArray).cells.size = 1025 := cel_size _
  have hll : (l ++ [c]).length = n + 1 := by rw [List.length_append, hn]; rfl
  generalize Value.agg (celRow (0, nought)).toArray = zv at *
  refine ⟨_, _, hr, ?_, ?_⟩
  · unfold HL
    rw [hll, celCells_snoc]
    refine ⟨hlen, .inr ⟨W1.heap.size, _, _, rfl, by omega, heap_alloc_new W1.drew _, hge, hcm, ?_, ?_⟩⟩
    · rw [Array.size_append, Array.size_append, size_zeroCells, hzz]
      have e1 : (celCells l).toArray.size = n * 1025 := by rw [List.size_toArray, celCells_len, hn]
      have e2 : (celRow c).toArray.size = 1025 := by rw [List.size_toArray, celRow_len]
      rw [e1, e2]
      generalize grownCap W1 (n + 1) n 85 = cp at *
      simp only [Nat.mul_comm _ 1025] at *
      omega
    · rw [Array.toList_append, Array.toList_append, List.toList_toArray, List.toList_toArray]
      generalize celCells l ++ celRow c = L at hlen ⊢
      rw [← hlen]
      exact List.take_left
  · exact hb1.drew.alloc (by rw [show W1.drew.heap.size = W1.heap.size from rfl]; omega) _
theorem HL.later {B : Nat} {W W' : World} {v : Value} {l : List Cel} (h : HL B W v l) (hb : Below W.heap.size W W') : HL B W' v l := ownsRow_later h hb
theorem HL.some {B : Nat} {W : World} {v : Value} {l : List Cel} (h : HL B W v l) (h0 : 0 < l.length) : ∃ g c, v = .slice (some ⟨g, 0, none⟩) l.length c ∧ B ≤ g ∧ g < W.heap.size ∧ ∀ k x, l[k]? = some x → CelAt W g (k * 1025) x := by
  obtain ⟨p, c, rfl, hi, _, hp⟩ := h.img
  obtain ⟨b, off, rfl, hlt, hc⟩ := hi h0
  obtain ⟨h1, h2, rfl⟩ := hp b off rfl
  exact ⟨b, c, rfl, h1, h2, fun k x hx => by have := hc k x hx; rwa [Nat.zero_add] at this⟩
/-- gv, but at k. -/
def updV (gv : Nat → Value) (k : Nat) (x : Value) : Nat → Value := fun j => if j = k then x else gv j
theorem range_updV (gv : Nat → Value) (k : Nat) (x : Value) : (List.range k).map gv ++ [x] = (List.range (k + 1)).map (updV gv k x) := by
  rw [List.range_succ, List.map_append]
  congr 1
  · apply List.map_congr_left
    intro j hj
    have := List.mem_range.1 hj
    unfold updV
    rw [if_neg (by omega)]
  · simp [updV]
/-- The longer lists, and their row. -/
structure GrownH (B : Nat) (ns : Nat → Nat) (k : Nat) (gv : Nat → Value) (v : Value) (w : World) : Prop where
  row : w.ownsRow B 30 1 v k ((List.range k).map gv)
  each : ∀ j, j < k → HL B w (gv j) (marksL (j + 10) (ns j + 6))
theorem GrownH.later {B : Nat} {ns : Nat → Nat} {k : Nat} {gv : Nat → Value} {v : Value} {w w' : World} (h : GrownH B ns k gv v w) (hb : Below w.heap.size w w') : GrownH B ns k gv v w' :=
  ⟨ownsRow_later h.row hb, fun j hj => (h.each j hj).later hb⟩
theorem HL.apart {w : World} {B e n : Nat} {v g : Value} {l : List Cel} {xs : List Value} (h : w.ownsRow B e 1 v n xs) (hg : HL B w g l) (he : e ≠ 85) : g.ownBlock = none ∨ g.ownBlock ≠ v.ownBlock := by
  obtain ⟨_, h2⟩ := hg
  rcases h2 with ⟨rfl, _⟩ | ⟨b, cap, cur, rfl, hb, hh, _⟩
  · exact .inl rfl
  · right
    obtain ⟨_, h3⟩ := h
    rcases h3 with ⟨rfl, _⟩ | ⟨b', cap', cur', rfl, hb', hh', _⟩
    · simp [Value.ownBlock]
    · intro q
      simp [Value.ownBlock] at q
      subst q
      rw [hh] at hh'
      simp at hh'
      exact he hh'.2.symm
theorem info30 : (Try.prog.info? 30).map (fun i => (i.zero, i.size, i.bytes)) = some (some (.slice none 0 0), 1, 24) := by kernel_rfl
theorem wpList_growH {ops : Array Oper} {rest : List Oper} {o : Oper} {a : Act} {W : World} {Q : Exit → Act → World → Prop} (hgd : o.guard = none) (s x : Operand)
    (ho : o.op = .call { callee := .builtin .append, args := #[s, x], argTypes := #[37, 37] }) (B : Nat) (ns : Nat → Nat) (k : Nat) (gv : Nat → Value) (v y : Value) (hs : a.eval s = v)
    (hx : a.eval x = .slice (some ⟨W.heap.size, 0, none⟩) 1 1) (hG : GrownH B ns k gv v W) (hy : HL B W y (marksL (k + 10) (ns k + 6))) (hk : k ≤ 100) (hbase : B ≤ W.heap.size)
    (h : ∀ v' w', GrownH B ns (k + 1) (updV gv k y) v' w' → Below B W w' → wpList Try.prog ops Q rest (a.put o.dst v') w') :
    wpList Try.prog ops Q (o :: rest) a (W.alloc (.cells #[y] 30)) := by
  obtain ⟨i0, hi0, hz0, hz1, hz2⟩ := info_parts info30
  have hy1 : y.oneCell' = true := by
    obtain ⟨g, cap, rfl, _⟩ := hy.some (by rw [marksL_len]; omega)
    rfl
  refine wpList_append_own _ hgd s x 37 ho B 30 i0 (.slice none 0 0) 1 24 Try.underlying37 hi0 hz0 hz1 hz2 rfl (by decide) v k _ hs (World.ownsRow.alloc hG.row _) ⟨W.heap.size, 0, none⟩ 1 1 [y] hx rfl (cell_one_new _ _ _)
    (fun u hu => by simp at hu; subst hu; exact hy1) (by unfold maxLen; omega) (by omega) (by simp; omega) ?_
  intro v' w' hown' hg _
  rw [range_updV] at hown'
  refine h v' w' ⟨hown', fun j hj => ?_⟩ (((Below.refl _ _).alloc hbase _).grown hg (by simp; omega) fun k hk => (World.ownsRow.lt hG.row k hk).1)
  have he : HL B W (updV gv k y j) (marksL (j + 10) (ns j + 6)) := by
    unfold updV
    by_cases e : j = k
    · rw [if_pos e, e]; exact hy
    · rw [if_neg e]; exact hG.each j (by omega)
  exact World.ownsRow.kept (World.ownsRow.alloc he _) hg (HL.apart hG.row he (by decide))
theorem quiet_load85 {W : World} {o : Oper} {a : Act} {K : Act → Prop} (x : Operand) (ho : o.op = .load 85 x) (g off : Nat) (hx : a.eval x = .pointer (some ⟨g, off, none⟩)) (c : Cel)
    (hlt : g < W.heap.size) (hc : CelAt W g off c) (hk : K (a.put o.dst (.agg (celRow c).toArray))) : o.quiet Try.prog a (fun w' => ∃ x : Later W, w' = x.val) K := by
  refine ⟨.agg (celRow c).toArray, ?_, hk⟩
  rintro _ ⟨y, rfl⟩
  have hc' : CelAt y.val g off c := ⟨(y.cell ⟨g, off, none⟩ hlt).trans hc.1, fun j v hv => (y.cell ⟨g, off + 1 + j, none⟩ hlt).trans (hc.2 j v hv)⟩
  have hr := load85 hc'
  generalize (celRow c).toArray = Z at *
  unfold Oper.quietAt execOp
  simp only [ho, hx, hr, Sem.run_bind, Result.andThen_ok, Sem.run_pure]
  exact ⟨rfl, rfl⟩
theorem fill_celi (p : Int) (Z R : Array Value) (hZ : Z.toList = .int .i64 0 :: R.toList) (place : Nat → Option (Nat × Nat)) (h0 : place 0 = some (0, 1)) :
    Instr.fill place Z [(0, .int .i64 p)] = some (Value.int .i64 p :: R.toList).toArray := by
  have hs : 1 ≤ Z.size := by rw [← Array.length_toList, hZ, List.length_cons]; omega
  unfold Instr.fill
  rw [h0]
  simp only [Value.cells, List.size_toArray, List.length_cons, List.length_nil]
  rw [if_neg (by intro q; simp at q; subst q; simp at hs)]
  rw [fold_over 0 #[.int .i64 p] Z (by simpa using hs)]
  unfold Instr.fill
  rw [hZ]
  simp
theorem build85i (p : Int) (u : World) : (Instr.build 85 #[(0, .int .i64 p)]).run Try.prog u = .ok (.agg (celRow (p, nought)).toArray) u := by
  have z := zero85
  have hf := fill_celi p (celRow (0, nought)).toArray (blk nought) rfl
  have e : (celRow (p, nought)).toArray = (Value.int .i64 p :: (blk nought).toList).toArray := rfl
  rw [e]
  generalize (Value.int .i64 p :: (blk nought).toList).toArray = Y at *
  generalize (celRow (0, nought)).toArray = Z at *
  simp [Instr.build, z, run_underlying Try.underlying85, Value.cells]
  rw [hf _ rfl]
  simp only [Sem.run_pure]
theorem exec_build85i {o : Oper} {a : Act} {W : World} {x : Operand} {p : Int} (ho : o.op = .build 85 #[(0, x)]) (hx : a.eval x = .int .i64 p) : (execOp a.eval o).run Try.prog W = .ok (.value (.agg (celRow (p, nought)).toArray)) W := by
  have e := build85i p W
  generalize (celRow (p, nought)).toArray = Z at *
  simp [execOp, ho, hx, e]
theorem putCel_all (Z : Array Value) (c : Cel) (hZ : Z.size = 1025) : putCel Z 0 c = (celRow c).toArray := by
  unfold putCel
  rw [List.take_zero, List.nil_append, List.drop_of_length_le (by rw [Array.length_toList]; omega), List.append_nil]
set_option maxRecDepth 20000 in
set_option maxHeartbeats 400000 in
theorem markHelds_any (k : Int) (i : Nat) (w : World) (hk : 0 ≤ k ∧ k ≤ 1000) (hi : i ≤ 1000000000) :
    Calls Try.prog 67 #[.int .i64 k, .int .i64 i] w fun e w' => e = .returned (.agg (celRow (markC k i)).toArray) ∧ Below w.heap.size w w' := by
  have z := zero85
  have HS : Hid ((celRow (0, nought)).toArray.size = 1025) := cel_size _
  have hb := below_new w (.cells (celRow (0, nought)).toArray 85)
  have hR := heap_alloc_new w (.cells (celRow (0, nought)).toArray 85)
  have HP : Hid (putCel (celRow (0, nought)).toArray 0 (markC k i) = (celRow (markC k i)).toArray) := putCel_all _ _ (cel_size _)
  have HSZ : Hid ((celRow (markC k i)).toArray.size = 1025) := cel_size _
  generalize (celRow (0, nought)).toArray = Z at *
  have hw1 : IntKind.i64.wrap (-1000 * k) = -1000 * k := by rw [IntKind.wrap_i64]; omega
  have hw2 : IntKind.i64.wrap (-1000 * k - (i : Int)) = -1000 * k - (i : Int) := by rw [IntKind.wrap_i64]; omega
  have hw3 : IntKind.i64.wrap (-1000 * k - (i : Int) - 7) = -1000 * k - (i : Int) - 7 := by rw [IntKind.wrap_i64]; omega
  go_enter Try.func67, Try.ntmps67
  go_wp2_with (first | refine wpList_exec rfl (exec_build85i (p := -1000 * k - (i : Int) - 7) rfl rfl) ?_ | refine wpList_store85 rfl (.tmp 4) (.tmp 10) rfl w.heap.size 0 (markC k i) rfl rfl Z hR (by rw [HS.out]; omega) ?_)
  rw [HP.out]
  refine bodyPost_ret (results_cell_row rfl _ _ w.heap.size 85 (celRow (markC k i)).toArray (0, 0) _ rfl (setRow_heap _ _ _ _ _ _ hR) Try.underlying85 rfl (by rw [HSZ.out]; exact size85)) rfl ⟨rfl, below_setRow hb (Nat.le_refl _) _⟩
end Go.Proofs.Ytembocfghkmieaa
