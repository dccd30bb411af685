/- ApartBlocks: lists of blocks that lie in memory of their own, each as long as its memory, are told apart; there are at most 90 of them. -/
import Derived.Test.YtedbgeibhaiheaaBlocks3
import Derived.Test.YtedbgeibhaiheaaOrd
import Derived.Deep.DeepAppendWide
namespace Go.Proofs.Ytedbgeibhaiheaa
open Go.RowKit

/-- F, from o on as the numbers l. -/
def ovL (F : Nat → Int) (o : Nat) : List Int → Nat → Int
  | [] => F
  | x :: l => ovL (upd F o x) (o + 1) l
theorem ovL_at : ∀ (l : List Int) (F : Nat → Int) (o i : Nat), ovL F o l i = if o ≤ i ∧ i < o + l.length then l.getD (i - o) 0 else F i
  | [], F, o, i => by rw [if_neg (by simp only [List.length_nil]; omega)]; rfl
  | x :: l, F, o, i => by
    rw [ovL, ovL_at l]
    by_cases h : i = o
    · subst h
      rw [if_neg (by omega), if_pos (by simp), Nat.sub_self]
      unfold upd
      rw [if_pos rfl]
      rfl
    · by_cases h2 : o + 1 ≤ i ∧ i < o + 1 + l.length
      · rw [if_pos h2, if_pos (by simp only [List.length_cons]; omega), show i - o = (i - (o + 1)) + 1 by omega]
        rfl
      · rw [if_neg h2, if_neg (by simp only [List.length_cons]; omega)]
        unfold upd
        rw [if_neg h]
theorem setCells_row {t : TypeId} (g m : Nat) : ∀ (l : List Int) (o : Nat) (F : Nat → Int) (w : World), w.heap[g]? = some (.cells (rowA F m) t) → (w.setCells g o (l.map (Value.int .u8))).heap[g]? = some (.cells (rowA (ovL F o l) m) t)
  | [], _, _, _, h => h
  | x :: l, o, F, w, h => by
    have h1 := heap_setCell_same w g o _ t (.int .u8 x) h
    rw [rowA_set] at h1
    exact setCells_row g m l (o + 1) (upd F o x) _ h1
theorem setCells_rowA {t : TypeId} (g m o n : Nat) (F f : Nat → Int) (w : World) (h : w.heap[g]? = some (.cells (rowA F m) t)) : (w.setCells g o (rowA f n).toList).heap[g]? = some (.cells (rowA (over F o n f) m) t) := by
  have e : (rowA f n).toList = ((List.range n).map f).map (Value.int .u8) := by simp [rowA]
  rw [e, setCells_row g m _ o F w h, rowA_congr fun i _ => ?_]
  rw [ovL_at, List.length_map, List.length_range]
  unfold over
  by_cases c : o ≤ i ∧ i < o + n
  · rw [if_pos c, if_pos c]
    have : i - o < n := by omega
    simp [this]
  · rw [if_neg c, if_neg c]
theorem setCells_blk {t : TypeId} (g m o : Nat) (F f : Nat → Int) (w : World) (h : w.heap[g]? = some (.cells (rowA F m) t)) : (w.setCells g o (blk f).toList).heap[g]? = some (.cells (rowA (over F o 1024 f) m) t) :=
  setCells_rowA g m o 1024 F f w h
theorem below_setCells' {B g : Nat} {w : World} (hB : B ≤ g) : ∀ (vs : List Value) (o : Nat) (u : World), Below B w u → Below B w (u.setCells g o vs)
  | [], _, _, hu => hu
  | _ :: r, o, _, hu => below_setCells' hB r (o + 1) _ (hu.setCell hB _)
theorem other_setCells {g b : Nat} {w : World} (hb : b ≠ g) : ∀ (vs : List Value) (o : Nat) (u : World), u.heap[b]? = w.heap[b]? → (u.setCells g o vs).heap[b]? = w.heap[b]?
  | [], _, _, hu => hu
  | _ :: r, o, u, hu => other_setCells hb r (o + 1) _ ((heap_setCell_other u _ _ _ hb).trans hu)
theorem wpOrd_store25 {ops : Array Oper} {Q : Exit → Act → World → Prop} {S : World → Prop} {r : List (Bool × Oper)} {a : Act} {w : World} {o : Oper} (hw : Region.wanted o (yielded ops a.tmps) = true) (x y : Operand) (ho : o.op = .store 25 x y)
    (g off m : Nat) (F f : Nat → Int) (t : TypeId) (hx : a.eval x = .pointer (some ⟨g, off, none⟩)) (hy : a.eval y = .agg (blk f)) (hg : w.heap[g]? = some (.cells (rowA F m) t)) (hm : off + 1024 ≤ m)
    (h : S (w.setCells g off (blk f).toList) ∧ wpOrd Try.prog ops Q S r (a.put o.dst undef) (w.setCells g off (blk f).toList)) : wpOrd Try.prog ops Q S ((false, o) :: r) a w := by
  simp only [wpOrd, hw, if_true]
  have ht : w.there g off (blk f).size := fun j hj => by
    rw [blk_size] at hj
    exact ⟨by rw [cell_row hg (off + j) (by omega)]; rfl, frozen_of_row w g (off + j) _ t hg⟩
  exact wp_store_mid 25 x y ho g off (blk f) hx hy ht (by rw [blk_size]; exact size25) (blk_one f) h

section
variable (K gl : Nat) (g ns : Nat → Nat) (base : Nat) (w0 : World)
/-- The lists' row, the lists, and what lay below. -/
structure ListsB (fs : Nat → Nat → Int) (w : World) : Prop where
  below : Below base w0 w
  head : ∀ k, k < K → w.cell? ⟨gl, k, none⟩ = some (.slice (some ⟨g k, 0, none⟩) (ns k) (ns k))
  row : ∀ k, k < K → w.heap[g k]? = some (.cells (rowA (fs k) (ns k * 1024)) 25)
end
/-- Some are written full, one as far as i blocks. -/
def upToB (fs : Nat → Nat → Int) (k i : Nat) : Nat → Nat → Int := fun j => if j < k then marksB (j + 10) else if j = k then firstAs (fs j) (marksB (j + 10)) (i * 1024) else fs j
theorem firstAs_block (f : Nat → Int) (k : Int) (i m : Nat) : rowA (over (firstAs f (marksB k) (i * 1024)) (i * 1024) 1024 (markB k i)) m = rowA (firstAs f (marksB k) ((i + 1) * 1024)) m := rowA_congr fun x _ => by
  by_cases c : i * 1024 ≤ x ∧ x < i * 1024 + 1024
  · have c1 : x < (i + 1) * 1024 := by simp only [Nat.mul_comm _ 1024] at *; omega
    have c2 : x / 1024 = i := by simp only [Nat.mul_comm _ 1024] at *; omega
    have c3 : x % 1024 = x - i * 1024 := by simp only [Nat.mul_comm _ 1024] at *; omega
    unfold over firstAs marksB
    rw [if_pos c, if_pos c1, c2, c3]
  · unfold over firstAs
    rw [if_neg c]
    by_cases c1 : x < i * 1024
    · have c2 : x < (i + 1) * 1024 := by simp only [Nat.mul_comm _ 1024] at *; omega
      rw [if_pos c1, if_pos c2]
    · have c2 : ¬ x < (i + 1) * 1024 := by simp only [Nat.mul_comm _ 1024] at *; omega
      rw [if_neg c1, if_neg c2]
theorem ListsB.later {K gl : Nat} {g ns : Nat → Nat} {base : Nat} {w0 w w' : World} {fs : Nat → Nat → Int} (h : ListsB K gl g ns base w0 fs w) (hb : Below w.heap.size w w') (hs : base ≤ w.heap.size) : ListsB K gl g ns base w0 fs w' :=
  ⟨h.below.trans (hb.mono hs), fun k hk => (hb.cell (p := ⟨gl, k, none⟩) (block_lt_of_cell (h.head k hk))).trans (h.head k hk), fun k hk => (hb.block (g k) (Array.getElem?_eq_some_iff.1 (h.row k hk)).1).trans (h.row k hk)⟩
theorem ListsB.store {K gl : Nat} {g ns : Nat → Nat} {base : Nat} {w0 w : World} {fs : Nat → Nat → Int} {k i : Nat} (h : ListsB K gl g ns base w0 (upToB fs k i) w) (hk : k < K) (hb : base ≤ g k) (hgl : gl ≠ g k)
    (hd : ∀ j, j < K → j ≠ k → g j ≠ g k) : ListsB K gl g ns base w0 (upToB fs k (i + 1)) (w.setCells (g k) (i * 1024) (blk (markB ((k : Int) + 10) i)).toList) := by
  refine ⟨below_setCells' hb _ _ _ h.below, fun j hj => ?_, fun j hj => ?_⟩
  · exact (World.cell?_of_block (a := ⟨gl, j, none⟩) (other_setCells hgl _ _ _ rfl)).trans (h.head j hj)
  · by_cases e : j = k
    · subst e
      have hr := h.row j hj
      unfold upToB at hr
      rw [if_neg (by omega), if_pos rfl] at hr
      rw [setCells_blk _ _ _ _ _ _ hr, firstAs_block]
      unfold upToB
      rw [if_neg (by omega), if_pos rfl]
    · rw [other_setCells (hd j hj e) _ _ _ rfl, h.row j hj]
      have : upToB fs k i j = upToB fs k (i + 1) j := by unfold upToB; simp [e]
      rw [this]
theorem ListsB.next {K gl : Nat} {g ns : Nat → Nat} {base : Nat} {w0 w : World} {fs : Nat → Nat → Int} {k : Nat} (h : ListsB K gl g ns base w0 (upToB fs k (ns k)) w) : ListsB K gl g ns base w0 (upToB fs (k + 1) 0) w := by
  refine ⟨h.below, h.head, fun j hj => ?_⟩
  rw [h.row j hj, rowA_congr fun i hi => ?_]
  unfold upToB
  by_cases h1 : j < k
  · rw [if_pos h1, if_pos (by omega)]
  · by_cases h2 : j = k
    · subst h2
      rw [if_neg h1, if_pos rfl, if_pos (by omega)]
      unfold firstAs
      rw [if_pos hi]
    · rw [if_neg h1, if_neg h2, if_neg (by omega)]
      by_cases h3 : j = k + 1
      · rw [if_pos h3]; unfold firstAs; rw [if_neg (by omega)]
      · rw [if_neg h3]
theorem info43 : (Try.prog.info? 43).map (fun i => (i.zero, i.size, i.bytes)) = some (some (.slice none 0 0), 1, 24) := by kernel_rfl
/-- A list without room is appended to: what lay there stays, what comes is new. -/
theorem wpList_firstB {ops : Array Oper} {rest : List Oper} {o : Oper} {a : Act} {W : World} {Q : Exit → Act → World → Prop} (hgd : o.guard = none) (s x : Operand)
    (ho : o.op = .call { callee := .builtin .append, args := #[s, x], argTypes := #[43, 43] }) (g n : Nat) (F f : Nat → Int) (hs : a.eval s = .slice (some ⟨g, 0, none⟩) n n)
    (hx : a.eval x = .slice (some ⟨W.heap.size, 0, none⟩) 1 1) (hg : W.heap[g]? = some (.cells (rowA F (n * 1024)) 25)) (hn : n + 1 ≤ 137438954000)
    (h : ∀ v' w', OwnB w' W.heap.size v' (n + 1) (catB F n f) → Below W.heap.size W w' → wpList Try.prog ops Q rest (a.put o.dst v') w') :
    wpList Try.prog ops Q (o :: rest) a (W.alloc (.cells (blk f) 25)) := by
  obtain ⟨i0, hi0, hz0, hz1, hz2⟩ := info_parts info25b
  have hlt : g < W.heap.size := (Array.getElem?_eq_some_iff.1 hg).1
  have hg' : (W.alloc (.cells (blk f) 25)).heap[g]? = some (.cells (rowA F (n * 1024)) 25) := (Below.heap_alloc W _ g hlt).trans hg
  have hb : ((n + 1) + (n + 1) / 4 + 192) * i0.bytes ≤ 281474976710656 := by rw [hz2]; simp only [Nat.mul_comm _ 1024] at *; omega
  have hold : ∀ j u, (rowA F (n * 1024)).toList[j]? = some u → (W.alloc (.cells (blk f) 25)).cell? ((⟨g, 0, none⟩ : Addr).add j) = some u := fun j u hu => by
    rw [Go.WideShapes.add_plain, Nat.zero_add, cell_of_row _ g j _ 25 _ hg', ← Array.getElem?_toList]
    exact hu
  have hnew : ∀ j u, (blk f).toList[j]? = some u → (W.alloc (.cells (blk f) 25)).cell? ((⟨W.heap.size, 0, none⟩ : Addr).add j) = some u := fun j u hu => by
    rw [Go.WideShapes.add_plain, Nat.zero_add, cell_of_row _ _ j _ 25 _ (heap_alloc_new W _), ← Array.getElem?_toList]
    exact hu
  have hr := run_append_grow (P := Try.prog) (W.alloc (.cells (blk f) 25)) 43 o.type 25 i0 (.agg (blk nought)) Try.underlying43 hi0 hz0 ⟨g, 0, none⟩ n n (rowA F (n * 1024)).toList (by rw [rowA_len, hz1]) hold ⟨W.heap.size, 0, none⟩ 1 1 (blk f).toList (by rw [blk_len, hz1]) hnew (by omega) (by omega) (growslice_fits_wide (by omega) hb)
  have h63 : n + 1 ≤ maxLen := by unfold maxLen; omega
  have hge := grownCap_ge (W.alloc (.cells (blk f) 25)) (n + 1) n 25
  have hcm := grownCap_le_maxLen (W.alloc (.cells (blk f) 25)) (n + 1) n 25 h63
  generalize hW1 : W.alloc (.cells (blk f) 25) = W1 at *
  have hsz1 : W1.heap.size = W.heap.size + 1 := by rw [← hW1]; simp
  have hb1 : Below W.heap.size W W1 := by rw [← hW1]; exact (Below.refl _ _).alloc (Nat.le_refl _) _
  have hsnoc := rowA_snocB F n f
  have hlen := rowA_len (catB F n f) ((n + 1) * 1024)
  have hzz : (Value.agg (blk nought)).cells.size = 1024 := blk_size nought
  generalize Value.agg (blk nought) = zv at *
  refine wpList_plain hgd fun _ hK => ?_
  unfold Oper.wp execOp
  simp only [ho, resolve, invoke, builtin, Sem.run_bind, Sem.run_pure, Result.andThen_ok, List.map_toArray, List.map_cons, List.map_nil, hs, hx, hr]
  refine hK _ _ (h _ _ ⟨hlen, .inr ⟨W1.heap.size, _, _, rfl, by omega, heap_alloc_new W1.drew _, hge, hcm, ?_, ?_⟩⟩ ?_)
  · rw [Array.size_append, Array.size_append, size_zeroCells, hzz]
    have e1 : (rowA F (n * 1024)).toList.toArray.size = n * 1024 := by rw [List.size_toArray, rowA_len]
    have e2 : (blk f).toList.toArray.size = 1024 := by rw [List.size_toArray, blk_len]
    rw [e1, e2]
    generalize grownCap W1 (n + 1) n 25 = c at *
    simp only [Nat.mul_comm _ 1024] at *
    omega
  · rw [Array.toList_append, Array.toList_append, List.toList_toArray, List.toList_toArray, hsnoc]
    generalize (rowA (catB F n f) ((n + 1) * 1024)).toList = L at hlen ⊢
    rw [← hlen]
    exact List.take_left
  · exact hb1.drew.alloc (by rw [show W1.drew.heap.size = W1.heap.size from rfl]; omega) _
theorem wpList_pushBw {ops : Array Oper} {rest : List Oper} {o : Oper} {a : Act} {W : World} {Q : Exit → Act → World → Prop} (hgd : o.guard = none) (s x : Operand)
    (ho : o.op = .call { callee := .builtin .append, args := #[s, x], argTypes := #[43, 43] }) (base : Nat) (v : Value) (n : Nat) (F f : Nat → Int) (hs : a.eval s = v)
    (hx : a.eval x = .slice (some ⟨W.heap.size, 0, none⟩) 1 1) (hown : OwnB W base v n F) (hn : n + 1 ≤ 137438954000) (hbase : base ≤ W.heap.size)
    (h : ∀ v' w', OwnB w' base v' (n + 1) (catB F n f) → (W.alloc (.cells (blk f) 25)).grownBy w' v.ownBlock → Below base W w' → wpList Try.prog ops Q rest (a.put o.dst v') w') :
    wpList Try.prog ops Q (o :: rest) a (W.alloc (.cells (blk f) 25)) := by
  obtain ⟨i0, hi0, hz0, hz1, hz2⟩ := info_parts info25b
  refine wpList_append_own_wide _ hgd s x 43 ho base 25 i0 (.agg (blk nought)) 1024 1024 Try.underlying43 hi0 hz0 hz1 hz2 (blk_size nought) (by decide) v n _ hs (World.ownsRow.alloc hown _) ⟨W.heap.size, 0, none⟩ 1 1 (blk f).toList hx (by rw [blk_len]) (fun j u hu => ?_)
    (blk_ones f) (by unfold maxLen; omega) (by simp only [Nat.mul_comm _ 1024] at *; omega) (by simp; omega) ?_
  · rw [Go.WideShapes.add_plain, Nat.zero_add, cell_of_row _ _ j _ 25 _ (heap_alloc_new W _), ← Array.getElem?_toList]
    exact hu
  · intro v' w' hown' hg _
    refine h v' w' ?_ hg (((Below.refl _ _).alloc hbase _).grown hg (by simp; omega) fun k hk => (World.ownsRow.lt hown k hk).1)
    unfold OwnB
    rw [rowA_snocB] at hown'
    exact hown'
/-- The longer lists, and their row. -/
structure GrownB (B : Nat) (ns : Nat → Nat) (k : Nat) (gv : Nat → Value) (v : Value) (w : World) : Prop where
  row : w.ownsRow B 43 1 v k ((List.range k).map gv)
  each : ∀ j, j < k → OwnB w B (gv j) (ns j + 6) (marksB (j + 10))
theorem GrownB.later {B : Nat} {ns : Nat → Nat} {k : Nat} {gv : Nat → Value} {v : Value} {w w' : World} (h : GrownB B ns k gv v w) (hb : Below w.heap.size w w') : GrownB B ns k gv v w' :=
  ⟨ownsRow_later h.row hb, fun j hj => (h.each j hj).later hb⟩
theorem OwnB.apart {w : World} {B e n : Nat} {v g : Value} {k : Nat} {F : Nat → Int} {xs : List Value} (h : w.ownsRow B e 1 v n xs) (hg : OwnB w B g k F) (he : e ≠ 25) : g.ownBlock = none ∨ g.ownBlock ≠ v.ownBlock := by
  obtain ⟨_, h2⟩ := hg
  rcases h2 with ⟨rfl, _⟩ | ⟨b, cap, cur, rfl, hb, hh, _⟩
  · exact .inl rfl
  · right
    obtain ⟨_, h3⟩ := h
    rcases h3 with ⟨rfl, _⟩ | ⟨b', cap', cur', rfl, hb', hh', _⟩
    · simp [Value.ownBlock]
    · intro q
      simp [Value.ownBlock] at q
      subst q
      rw [hh] at hh'
      simp at hh'
      exact he hh'.2.symm
theorem wpList_growB {ops : Array Oper} {rest : List Oper} {o : Oper} {a : Act} {W : World} {Q : Exit → Act → World → Prop} (hgd : o.guard = none) (s x : Operand)
    (ho : o.op = .call { callee := .builtin .append, args := #[s, x], argTypes := #[47, 47] }) (B : Nat) (ns : Nat → Nat) (k : Nat) (gv : Nat → Value) (v y : Value) (hs : a.eval s = v)
    (hx : a.eval x = .slice (some ⟨W.heap.size, 0, none⟩) 1 1) (hG : GrownB B ns k gv v W) (hy : OwnB W B y (ns k + 6) (marksB (k + 10))) (hk : k ≤ 100) (hbase : B ≤ W.heap.size)
    (h : ∀ v' w', GrownB B ns (k + 1) (updV gv k y) v' w' → Below B W w' → wpList Try.prog ops Q rest (a.put o.dst v') w') :
    wpList Try.prog ops Q (o :: rest) a (W.alloc (.cells #[y] 43)) := by
  obtain ⟨i0, hi0, hz0, hz1, hz2⟩ := info_parts info43
  have hy1 : y.oneCell' = true := by
    obtain ⟨g, cap, rfl, _⟩ := hy.some (by omega)
    rfl
  refine wpList_append_own _ hgd s x 47 ho B 43 i0 (.slice none 0 0) 1 24 Try.underlying47 hi0 hz0 hz1 hz2 rfl (by decide) v k _ hs (World.ownsRow.alloc hG.row _) ⟨W.heap.size, 0, none⟩ 1 1 [y] hx rfl (cell_one_new _ _ _)
    (fun u hu => by simp at hu; subst hu; exact hy1) (by unfold maxLen; omega) (by omega) (by simp; omega) ?_
  intro v' w' hown' hg _
  rw [range_updV] at hown'
  refine h v' w' ⟨hown', fun j hj => ?_⟩ (((Below.refl _ _).alloc hbase _).grown hg (by simp; omega) fun k hk => (World.ownsRow.lt hG.row k hk).1)
  have he : OwnB W B (updV gv k y j) (ns j + 6) (marksB (j + 10)) := by
    unfold updV
    by_cases e : j = k
    · rw [if_pos e, e]; exact hy
    · rw [if_neg e]; exact hG.each j (by omega)
  exact World.ownsRow.kept (World.ownsRow.alloc he _) hg (OwnB.apart hG.row he (by decide))
end Go.Proofs.Ytedbgeibhaiheaa
