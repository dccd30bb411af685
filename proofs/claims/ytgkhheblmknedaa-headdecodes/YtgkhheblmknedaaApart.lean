/- ApartInts: lists that lie in blocks of their own, each as long as its block, are told apart; there are at most 90 of them. -/
import Derived.Test.YtgkhheblmknedaaLists
import Derived.Test.YtgkhheblmknedaaOrd
import Derived.ArgAppend
import Derived.Deep.Onto
import Derived.BigQuiet
namespace Go.Proofs.Ytgkhheblmknedaa
open Go.RowKit
theorem below_drewN' {B : Nat} {w W : World} (h : Below B w W) (q : Nat) : Below B w (W.drewN q) := h.trans ⟨rfl, rfl, rfl, Nat.le_refl _, fun _ _ => rfl⟩
/-- The marks of list k. -/
def markF (k : Int) : Nat → Int := fun i => -1000 * k - (i : Int) - 7
/-- f, its first k places as G. -/
def firstAs (f G : Nat → Int) (k : Nat) : Nat → Int := fun j => if j < k then G j else f j
theorem firstAs_next (f G : Nat → Int) (k : Nat) : upd (firstAs f G k) k (G k) = firstAs f G (k + 1) := by
  funext j
  unfold upd firstAs
  by_cases h : j = k
  · subst h; rw [if_pos rfl, if_pos (by omega)]
  · by_cases h2 : j < k
    · rw [if_neg h, if_pos h2, if_pos (by omega)]
    · rw [if_neg h, if_neg h2, if_neg (by omega)]

/-- The slice v owns n bytes, f 0, f 1 .., in a block from base on. -/
def Own (w : World) (base : Nat) (v : Value) (n : Nat) (f : Nat → Int) : Prop := w.ownsRow base 3 1 v n (rowI f n).toList
theorem rowI_len (f : Nat → Int) (n : Nat) : (rowI f n).toList.length = n := by simp [rowI_size]
theorem rowI_cat (f g : Nat → Int) (n m : Nat) (h : Nat → Int) (h1 : ∀ i, i < n → h i = f i) (h2 : ∀ i, i < m → h (n + i) = g i) : (rowI f n).toList ++ (rowI g m).toList = (rowI h (n + m)).toList := by
  apply List.ext_getElem?
  intro i
  by_cases hi : i < n
  · rw [List.getElem?_append_left (by rw [rowI_len]; exact hi)]
    simp only [Array.getElem?_toList]
    rw [rowI_get f n i hi, rowI_get h (n + m) i (by omega), h1 i hi]
  · rw [List.getElem?_append_right (by rw [rowI_len]; omega), rowI_len]
    by_cases hm : i < n + m
    · simp only [Array.getElem?_toList]
      rw [rowI_get g m (i - n) (by omega), rowI_get h (n + m) i hm, ← h2 (i - n) (by omega), show n + (i - n) = i by omega]
    · rw [List.getElem?_eq_none (by rw [rowI_len]; omega), List.getElem?_eq_none (by rw [rowI_len]; omega)]
theorem rowI_snoc (f : Nat → Int) (n : Nat) (x : Int) : (rowI f n).toList ++ [.int .i64 x] = (rowI (upd f n x) (n + 1)).toList := by
  have e : ([.int .i64 x] : List Value) = (rowI (fun _ => x) 1).toList := rfl
  rw [e]
  exact rowI_cat f _ n 1 _ (fun i hi => by unfold upd; rw [if_neg (by omega)]) (fun i hi => by unfold upd; rw [if_pos (by omega)])
/-- Whoever has the first bytes has fewer of them, too. -/
theorem Own.nil (w : World) (base : Nat) (f : Nat → Int) : Own w base (.slice none 0 0) 0 f := World.ownsRow_nil w base 3 1

theorem rowI_one (f : Nat → Int) (m : Nat) : ∀ v ∈ (rowI f m).toList, v.oneCell' = true := fun v hv => by
  simp [rowI] at hv
  obtain ⟨i, _, rfl⟩ := hv
  rfl
theorem Own.some {w : World} {B : Nat} {v : Value} {n : Nat} {f : Nat → Int} (h : Own w B v n f) (h0 : 0 < n) : ∃ g c, v = .slice (some ⟨g, 0, none⟩) n c ∧ ∀ i, i < n → w.cell? ⟨g, i, none⟩ = some (.int .i64 (f i)) := by
  rcases h.2 with ⟨_, h2⟩ | ⟨g, cap, cur, rfl, hB, hg, hc, _⟩
  · omega
  · refine ⟨g, cap, rfl, fun i hi => ?_⟩
    rw [World.ownsRow.cellAt h i (by omega), Array.getElem?_toList]
    exact rowI_get f n i hi
theorem Own.later {w w' : World} {base : Nat} {v : Value} {n : Nat} {f : Nat → Int} (h : Own w base v n f) (hb : Below w.heap.size w w') : Own w' base v n f := by
  refine ⟨h.1, ?_⟩
  rcases h.2 with hn | ⟨g, cap, cur, rfl, hB, hg, rest⟩
  · exact .inl hn
  · exact .inr ⟨g, cap, cur, rfl, hB, heap_kept hg hb, rest⟩
theorem wpList_push5 {ops : Array Oper} {rest : List Oper} {o : Oper} {a : Act} {W : World} {Q : Exit → Act → World → Prop} (hgd : o.guard = none) (s x : Operand)
    (ho : o.op = .call { callee := .builtin .append, args := #[s, x], argTypes := #[24, 24] }) (base : Nat) (v : Value) (n : Nat) (f : Nat → Int) (y : Int) (hs : a.eval s = v)
    (hx : a.eval x = .slice (some ⟨W.heap.size, 0, none⟩) 1 1) (hown : Own W base v n f) (hn : 8 * (n + 1) ≤ 140737488355328) (hbase : base ≤ W.heap.size)
    (h : ∀ v' w', Own w' base v' (n + 1) (upd f n y) → (W.alloc (.cells #[.int .i64 y] 3)).grownBy w' v.ownBlock → Below base W w' → wpList Try.prog ops Q rest (a.put o.dst v') w') :
    wpList Try.prog ops Q (o :: rest) a (W.alloc (.cells #[.int .i64 y] 3)) := by
  obtain ⟨i0, hi0, hz0, hz1, hz2⟩ := info_parts info3
  refine wpList_append_own _ hgd s x 24 ho base 3 i0 (.int .i64 0) 1 8 Try.underlying24 hi0 hz0 hz1 hz2 rfl (by decide) v n (rowI f n).toList hs (World.ownsRow.alloc hown _) ⟨W.heap.size, 0, none⟩ 1 1 [.int .i64 y] hx rfl (cell_one_new _ _ _)
    (fun u hu => by simp at hu; subst hu; rfl) (by unfold maxLen; omega) (by omega) (by simp; omega) ?_
  intro v' w' hown' hg _
  refine h v' w' ?_ hg (((Below.refl _ _).alloc hbase _).grown hg (by simp; omega) fun k hk => (World.ownsRow.lt hown k hk).1)
  unfold Own
  rw [rowI_snoc] at hown'
  exact hown'

/-- n bytes of f, marks of list k behind them. -/
theorem wpOrd_store5 {ops : Array Oper} {Q : Exit → Act → World → Prop} {S : World → Prop} {r : List (Bool × Oper)} {a : Act} {w : World} {o : Oper} (hw : Region.wanted o (yielded ops a.tmps) = true) (x y : Operand) (ho : o.op = .store 3 x y)
    (g i n : Nat) (v : Int) (f : Nat → Int) (hx : a.eval x = .pointer (some ⟨g, i, none⟩)) (hy : a.eval y = .int .i64 v) (hg : w.heap[g]? = some (.cells (rowI f n) 3)) (hi : i < n)
    (h : S (w.setCell ⟨g, i, none⟩ (.int .i64 v)) ∧ wpOrd Try.prog ops Q S r (a.put o.dst undef) (w.setCell ⟨g, i, none⟩ (.int .i64 v))) : wpOrd Try.prog ops Q S ((false, o) :: r) a w := by
  have hc := cell_rowI hg i hi
  have hf : w.frozen? ⟨g, i, none⟩ = false := frozen_of_row w g i _ 3 hg
  simp only [wpOrd, hw, if_true]
  unfold Oper.wp execOp
  simp only [ho, hx, hy]
  simp [go_sem, hc, hf]
  exact h

section
variable (K gl : Nat) (g ns : Nat → Nat) (base : Nat) (w0 : World)
/-- The lists' row, the lists, and what lay below. -/
structure Lists (fs : Nat → Nat → Int) (w : World) : Prop where
  below : Below base w0 w
  head : ∀ k, k < K → w.cell? ⟨gl, k, none⟩ = some (.slice (some ⟨g k, 0, none⟩) (ns k) (ns k))
  row : ∀ k, k < K → w.heap[g k]? = some (.cells (rowI (fs k) (ns k)) 3)
end
/-- Some are written full, one as far as i. -/
def upTo (fs : Nat → Nat → Int) (k i : Nat) : Nat → Nat → Int := fun j => if j < k then markF (j + 10) else if j = k then firstAs (fs j) (markF (j + 10)) i else fs j

theorem Lists.store {K gl : Nat} {g ns : Nat → Nat} {base : Nat} {w0 w : World} {fs : Nat → Nat → Int} {k i : Nat} (h : Lists K gl g ns base w0 (upTo fs k i) w) (hk : k < K) (hb : base ≤ g k) (hgl : gl ≠ g k)
    (hd : ∀ j, j < K → j ≠ k → g j ≠ g k) : Lists K gl g ns base w0 (upTo fs k (i + 1)) (w.setCell ⟨g k, i, none⟩ (.int .i64 (markF ((k : Int) + 10) i))) := by
  refine ⟨h.below.setCell hb _, fun j hj => ?_, fun j hj => ?_⟩
  · rw [World.cell?_setCell_other _ _ _ _ (fun e => hgl (congrArg Addr.block e).symm)]
    exact h.head j hj
  · by_cases e : j = k
    · subst e
      rw [heap_setCell_same w (g j) i _ 3 _ (h.row j hj), rowI_set]
      have : upd (upTo fs j i j) i (markF ((j : Int) + 10) i) = upTo fs j (i + 1) j := by
        unfold upTo
        rw [if_neg (by omega), if_pos rfl, if_neg (by omega), if_pos rfl]
        exact firstAs_next _ _ _
      rw [this]
    · rw [heap_setCell_other w _ _ _ (hd j hj e), h.row j hj]
      have : upTo fs k i j = upTo fs k (i + 1) j := by unfold upTo; simp [e]
      rw [this]

theorem upTo_done (fs : Nat → Nat → Int) (k n : Nat) (j : Nat) : rowI (upTo fs k n j) (if j = k then n else 0) = rowI (upTo fs k n j) (if j = k then n else 0) := rfl
theorem Lists.next {K gl : Nat} {g ns : Nat → Nat} {base : Nat} {w0 w : World} {fs : Nat → Nat → Int} {k : Nat} (h : Lists K gl g ns base w0 (upTo fs k (ns k)) w) : Lists K gl g ns base w0 (upTo fs (k + 1) 0) w := by
  refine ⟨h.below, h.head, fun j hj => ?_⟩
  rw [h.row j hj, rowI_congr fun i hi => ?_]
  unfold upTo
  by_cases h1 : j < k
  · rw [if_pos h1, if_pos (by omega)]
  · by_cases h2 : j = k
    · subst h2
      rw [if_neg h1, if_pos rfl, if_pos (by omega)]
      unfold firstAs
      rw [if_pos hi]
    · rw [if_neg h1, if_neg h2, if_neg (by omega)]
      by_cases h3 : j = k + 1
      · rw [if_pos h3]; unfold firstAs; rw [if_neg (by omega)]
      · rw [if_neg h3]
theorem Lists.drewN {K gl : Nat} {g ns : Nat → Nat} {base : Nat} {w0 w : World} {fs : Nat → Nat → Int} (h : Lists K gl g ns base w0 fs w) (d : Nat) : Lists K gl g ns base w0 fs (w.drewN d) := ⟨below_drewN' h.below d, h.head, h.row⟩

theorem upd_same (f : Nat → Int) (n m : Nat) (h : m = n) : upd f n (f m) = f := by
  subst h; funext j; unfold upd; split
  · rename_i e; rw [e]
  · rfl
theorem ownsRow_later {w w' : World} {base e size : Nat} {v : Value} {n : Nat} {xs : List Value} (h : w.ownsRow base e size v n xs) (hb : Below w.heap.size w w') : w'.ownsRow base e size v n xs := by
  obtain ⟨h1, h2⟩ := h
  refine ⟨h1, ?_⟩
  rcases h2 with h2 | ⟨g, cap, cur, hv, hg, hh, r⟩
  · exact .inl h2
  · exact .inr ⟨g, cap, cur, hv, hg, (hb.block g (Array.getElem?_eq_some_iff.1 hh).1).trans hh, r⟩
theorem info24 : (Try.prog.info? 24).map (fun i => (i.zero, i.size, i.bytes)) = some (some (.slice none 0 0), 1, 24) := by kernel_rfl
/-- A list without room is appended to: what lay there stays, what comes is new. -/
theorem wpList_first5 {ops : Array Oper} {rest : List Oper} {o : Oper} {a : Act} {W : World} {Q : Exit → Act → World → Prop} (hgd : o.guard = none) (s x : Operand)
    (ho : o.op = .call { callee := .builtin .append, args := #[s, x], argTypes := #[24, 24] }) (g n : Nat) (f : Nat → Int) (y : Int) (hs : a.eval s = .slice (some ⟨g, 0, none⟩) n n)
    (hx : a.eval x = .slice (some ⟨W.heap.size, 0, none⟩) 1 1) (hg : W.heap[g]? = some (.cells (rowI f n) 3)) (hn : 8 * (n + 1) ≤ 140737488355328)
    (h : ∀ v' w', Own w' W.heap.size v' (n + 1) (upd f n y) → Below W.heap.size W w' → wpList Try.prog ops Q rest (a.put o.dst v') w') :
    wpList Try.prog ops Q (o :: rest) a (W.alloc (.cells #[.int .i64 y] 3)) := by
  obtain ⟨i0, hi0, hz0, hz1, hz2⟩ := info_parts info3
  have hlt : g < W.heap.size := (Array.getElem?_eq_some_iff.1 hg).1
  have hg' : (W.alloc (.cells #[.int .i64 y] 3)).heap[g]? = some (.cells (rowI f n) 3) := (Below.heap_alloc W _ g hlt).trans hg
  refine wpList_append_grows _ hgd s x 24 ho 3 i0 (.int .i64 0) 1 8 Try.underlying24 hi0 hz0 hz1 hz2 rfl (by decide) (some ⟨g, 0, none⟩) n n (rowI f n).toList hs (fun q => by cases q) (by rw [rowI_len]; omega)
    (fun b hb j u hu => ?_) ⟨W.heap.size, 0, none⟩ 1 1 [.int .i64 y] hx rfl (cell_one_new _ _ _) (fun u hu => by simp at hu; subst hu; rfl) (by omega) (by unfold maxLen; omega) (by omega) ?_
  · cases hb
    rw [Go.WideShapes.add_plain, Nat.zero_add, cell_of_row _ g j _ 3 _ hg', ← Array.getElem?_toList]
    exact hu
  · intro v' w' hown hgr
    refine h v' w' ?_ (((Below.refl _ _).alloc (Nat.le_refl _) _).grown hgr (by simp) fun k hk => by cases hk)
    unfold Own
    rw [rowI_snoc] at hown
    exact World.ownsRow.mono hown (by simp)
/-- The longer lists, and their row. -/
structure Grown (B : Nat) (ns : Nat → Nat) (k : Nat) (gv : Nat → Value) (v : Value) (w : World) : Prop where
  row : w.ownsRow B 24 1 v k ((List.range k).map gv)
  each : ∀ j, j < k → Own w B (gv j) (ns j + 6) (markF (j + 10))
theorem Grown.later {B : Nat} {ns : Nat → Nat} {k : Nat} {gv : Nat → Value} {v : Value} {w w' : World} (h : Grown B ns k gv v w) (hb : Below w.heap.size w w') : Grown B ns k gv v w' :=
  ⟨ownsRow_later h.row hb, fun j hj => (h.each j hj).later hb⟩
/-- gv, but at k. -/
def updV (gv : Nat → Value) (k : Nat) (x : Value) : Nat → Value := fun j => if j = k then x else gv j
theorem range_updV (gv : Nat → Value) (k : Nat) (x : Value) : (List.range k).map gv ++ [x] = (List.range (k + 1)).map (updV gv k x) := by
  rw [List.range_succ, List.map_append]
  congr 1
  · apply List.map_congr_left
    intro j hj
    have := List.mem_range.1 hj
    unfold updV
    rw [if_neg (by omega)]
  · simp [updV]
theorem Own.apart {w : World} {B e n : Nat} {v g : Value} {k : Nat} {f : Nat → Int} {xs : List Value} (h : w.ownsRow B e 1 v n xs) (hg : Own w B g k f) (he : e ≠ 3) : g.ownBlock = none ∨ g.ownBlock ≠ v.ownBlock := by
  obtain ⟨_, h2⟩ := hg
  rcases h2 with ⟨rfl, _⟩ | ⟨b, cap, cur, rfl, hb, hh, _⟩
  · exact .inl rfl
  · right
    obtain ⟨_, h3⟩ := h
    rcases h3 with ⟨rfl, _⟩ | ⟨b', cap', cur', rfl, hb', hh', _⟩
    · simp [Value.ownBlock]
    · intro q
      simp [Value.ownBlock] at q
      subst q
      rw [hh] at hh'
      simp at hh'
      exact he hh'.2.symm
theorem wpList_grow {ops : Array Oper} {rest : List Oper} {o : Oper} {a : Act} {W : World} {Q : Exit → Act → World → Prop} (hgd : o.guard = none) (s x : Operand)
    (ho : o.op = .call { callee := .builtin .append, args := #[s, x], argTypes := #[43, 43] }) (B : Nat) (ns : Nat → Nat) (k : Nat) (gv : Nat → Value) (v y : Value) (hs : a.eval s = v)
    (hx : a.eval x = .slice (some ⟨W.heap.size, 0, none⟩) 1 1) (hG : Grown B ns k gv v W) (hy : Own W B y (ns k + 6) (markF (k + 10))) (hk : k ≤ 100) (hbase : B ≤ W.heap.size)
    (h : ∀ v' w', Grown B ns (k + 1) (updV gv k y) v' w' → Below B W w' → wpList Try.prog ops Q rest (a.put o.dst v') w') :
    wpList Try.prog ops Q (o :: rest) a (W.alloc (.cells #[y] 24)) := by
  obtain ⟨i0, hi0, hz0, hz1, hz2⟩ := info_parts info24
  have hy1 : y.oneCell' = true := by
    obtain ⟨g, cap, rfl, _⟩ := hy.some (by omega)
    rfl
  refine wpList_append_own _ hgd s x 43 ho B 24 i0 (.slice none 0 0) 1 24 Try.underlying43 hi0 hz0 hz1 hz2 rfl (by decide) v k _ hs (World.ownsRow.alloc hG.row _) ⟨W.heap.size, 0, none⟩ 1 1 [y] hx rfl (cell_one_new _ _ _)
    (fun u hu => by simp at hu; subst hu; exact hy1) (by unfold maxLen; omega) (by omega) (by simp; omega) ?_
  intro v' w' hown' hg _
  rw [range_updV] at hown'
  refine h v' w' ⟨hown', fun j hj => ?_⟩ (((Below.refl _ _).alloc hbase _).grown hg (by simp; omega) fun k hk => (World.ownsRow.lt hG.row k hk).1)
  have he : Own W B (updV gv k y j) (ns j + 6) (markF (j + 10)) := by
    unfold updV
    by_cases e : j = k
    · rw [if_pos e, e]; exact hy
    · rw [if_neg e]; exact hG.each j (by omega)
  exact World.ownsRow.kept (World.ownsRow.alloc he _) hg (Own.apart hG.row he (by decide))

set_option maxRecDepth 20000 in
set_option maxHeartbeats 2000000 in
theorem apart_any (K gl : Nat) (g ns : Nat → Nat) (base : Nat) (w : World) (fs : Nat → Nat → Int) (hK0 : 0 < K) (hK : (K : Int) ≤ 90) (hns : ∀ k, k < K → ns k ≤ 1099511627776) (hg : ∀ k, k < K → base ≤ g k) (hgl : ∀ k, k < K → gl ≠ g k) (hd : ∀ j k, j < K → k < K → j ≠ k → g j ≠ g k) (hbase : base ≤ w.heap.size)
    (h0 : Lists K gl g ns base w fs w) :
    Calls Try.prog 18 #[.slice (some ⟨gl, 0, none⟩) K K] w fun e w' => e = .returned (.bool true) ∧ Below base w w' := by
  have HNS := (show Hid _ from hns)
  have HG := (show Hid _ from hg)
  have HGL := (show Hid _ from hgl)
  have HD := (show Hid _ from hd)
  have h1 : Lists K gl g ns base w (upTo fs 0 0) w := ⟨h0.below, h0.head, fun j hj => by
    rw [h0.row j hj, rowI_congr fun i _ => ?_]
    unfold upTo firstAs
    rw [if_neg (by omega)]
    split
    · simp
    · rfl⟩
  clear hns hg hgl hd h0
  go_enter Try.func18, Try.ntmps18
  go_wp2
  go_loopw [3] (fun s3 wx => ∃ k : Nat, (k : Int) ≤ K ∧ s3 = .int .i64 k ∧ Lists K gl g ns base w (upTo fs k 0) wx) (fun s3 _ => K - (intOf s3).toNat)
  case atStart => exact ⟨0, by omega, rfl, h1⟩
  case round =>
    obtain ⟨k, hk, rfl, hL⟩ := hrel
    clear h1
    by_cases hk2 : (k : Int) < K
    · have hkN : k < K := by omega
      have hn := HNS.out k hkN
      go_wp2
      go_loopw [4] (fun s4 wx => ∃ i : Nat, (i : Int) ≤ ns k ∧ s4 = .int .i64 i ∧ Lists K gl g ns base w (upTo fs k i) wx) (fun s4 _ => ns k - (intOf s4).toNat)
      case atStart => exact ⟨0, by omega, rfl, hL⟩
      case round =>
        obtain ⟨i, hi, rfl, hL⟩ := hrel
        have hhd := hL.head k hkN
        by_cases hi2 : (i : Int) < ns k
        · have HL := (show Hid _ from hL)
          clear hL
          go_wp2
          have hwr : IntKind.i64.wrap ((k : Int) + 10) = (k : Int) + 10 := by rw [IntKind.wrap_i64]; omega
          refine wp_region_ord (S := fun u => u.cell? ⟨gl, k, none⟩ = some (.slice (some ⟨g k, 0, none⟩) (ns k) (ns k))) [(0, true), (1, true), (2, true), (3, true), (4, true), (5, true), (6, true), (7, true), (8, false), (9, true), (10, false)]
            (by kernel_rfl) rfl (by kernel_rfl) (fun d _ _ _ _ h => by cases d <;> exact h) hhd ?_
          simp only [inOrd, List.getElem?_cons_zero, List.getElem?_cons_succ]
          refine wpOrd_move rfl _ rfl ?_
          simp only [Act.put, List.setIfInBounds_toArray, List.set_cons_succ, List.set_cons_zero]
          refine wpOrd_move rfl _ rfl ?_
          simp only [Act.put, List.setIfInBounds_toArray, List.set_cons_succ, List.set_cons_zero]
          refine wpOrd_yield (v := .pointer (some ⟨gl, k, none⟩)) rfl (fun u _ => by go_simp) ?_
          simp only [Act.put, List.setIfInBounds_toArray, List.set_cons_succ, List.set_cons_zero]
          refine wpOrd_yield (v := .slice (some ⟨g k, 0, none⟩) (ns k) (ns k)) rfl (fun u hu => by go_simp) ?_
          simp only [Act.put, List.setIfInBounds_toArray, List.set_cons_succ, List.set_cons_zero]
          refine wpOrd_move rfl _ rfl ?_
          simp only [Act.put, List.setIfInBounds_toArray, List.set_cons_succ, List.set_cons_zero]
          refine wpOrd_move rfl _ rfl ?_
          simp only [Act.put, List.setIfInBounds_toArray, List.set_cons_succ, List.set_cons_zero]
          refine wpOrd_yield (v := .int .i64 ((k : Int) + 10)) rfl (fun u _ => by go_simp) ?_
          simp only [Act.put, List.setIfInBounds_toArray, List.set_cons_succ, List.set_cons_zero]
          refine wpOrd_move rfl _ rfl ?_
          simp only [Act.put, List.setIfInBounds_toArray, List.set_cons_succ, List.set_cons_zero]
          refine wpOrd_call rfl 29 _ _ rfl Try.call29 [.int .i64 ((k : Int) + 10), .int .i64 (i : Int)] rfl ?_
          refine (mark_any ((k : Int) + 10) i _ (by omega) (by omega)).mono ?_
          rintro e X ⟨rfl, rfl⟩
          refine ⟨_, rfl, hhd, ?_⟩
          simp only [Act.put, List.setIfInBounds_toArray, List.set_cons_succ, List.set_cons_zero]
          refine wpOrd_yield (v := .pointer (some ⟨g k, i, none⟩)) rfl (fun u _ => by go_simp) ?_
          simp only [Act.put, List.setIfInBounds_toArray, List.set_cons_succ, List.set_cons_zero]
          have hst := HL.out.store hkN (HG.out k hkN) (HGL.out k hkN) (fun j hj e => HD.out j k hj hkN e)
          refine wpOrd_store5 rfl _ _ rfl (g k) i (ns k) (markF ((k : Int) + 10) i) _ rfl rfl (HL.out.row k hkN) (by omega) ⟨hst.head k hkN, ?_⟩
          refine wpOrd_nil ?_
          simp only [Act.put]
          have hd' : ∀ v, (wr.drew.setCell ⟨g k, i, none⟩ v) = (wr.setCell ⟨g k, i, none⟩ v).drew := fun _ => rfl
          rw [hd']
          have HS : Hid (Lists K gl g ns base w (upTo fs k (i + 1)) (wr.setCell ⟨g k, i, none⟩ (.int .i64 (markF ((k : Int) + 10) i))).drew) := ⟨hst.below.drew, hst.head, hst.row⟩
          generalize (wr.setCell ⟨g k, i, none⟩ (.int .i64 (markF ((k : Int) + 10) i))).drew = X at HS ⊢
          clear hst hd' HL hhd
          go_wp2
          exact ⟨⟨i + 1, by omega, by go_num, HS.out⟩, by simp [intOf]; omega⟩
        · have e : i = ns k := by omega
          have HL : Hid (Lists K gl g ns base w (upTo fs (k + 1) 0) wr) := by rw [e] at hL; exact hL.next
          clear hL e
          go_wp2
          exact ⟨⟨k + 1, by omega, by go_num, HL.out⟩, by simp [intOf]; omega⟩
    · have e : K = k := by omega
      have hm : Lists K gl g ns base w (fun j => markF (j + 10)) wr := ⟨hL.below, hL.head, fun j hj => by rw [hL.row j hj]; unfold upTo; rw [if_pos (by omega)]⟩
      clear hL e hk
      have HM := (show Hid _ from hm)
      have hglt : gl < wr.heap.size := block_lt_of_cell (hm.head 0 hK0)
      clear hm
      go_wp2
      have hmk : ∀ (kk : Nat) (nn i : Nat), kk < K → nn ≤ 1099511627776 → i < 6 → ∀ u, Calls Try.prog 29 #[.int .i64 ((kk : Int) + 10), .int .i64 ((nn : Int) + i)] u fun e u' => e = .returned (.int .i64 (markF ((kk : Int) + 10) (nn + i))) ∧ u' = u := fun kk nn i h1 h2 h3 u => by
        have := mark_any ((kk : Int) + 10) ((nn : Int) + i) u (by omega) (by omega)
        unfold markF
        rw [show ((nn + i : Nat) : Int) = (nn : Int) + i by omega]
        exact this
      have HMK := (show Hid _ from hmk)
      clear hmk
      generalize wr = W2 at HM hglt ⊢
      go_loopw [5, 6] (fun s5 s6 wx => ∃ (k : Nat) (gv : Nat → Value), (k : Int) ≤ K ∧ s6 = .int .i64 k ∧ Hid (Grown W2.heap.size ns k gv s5 wx) ∧ Hid (Below W2.heap.size W2 wx)) (fun _ s6 _ => K - (intOf s6).toNat)
      case atStart => exact ⟨0, fun _ => undef, by omega, rfl, ⟨World.ownsRow_nil _ _ _ _, fun j hj => absurd hj (by omega)⟩, Below.refl _ _⟩
      case round =>
        obtain ⟨k2, gv, hk3, rfl, HGr, HBl⟩ := hrel
        by_cases hk4 : (k2 : Int) < K
        · have hkN : k2 < K := by omega
          have hn := HNS.out k2 hkN
          have hhd : wr.cell? ⟨gl, k2, none⟩ = some (.slice (some ⟨g k2, 0, none⟩) (ns k2) (ns k2)) := (HBl.out.cell (p := ⟨gl, k2, none⟩) hglt).trans (HM.out.head k2 hkN)
          have hrow0 := HM.out.row k2 hkN
          have HR : Hid (wr.heap[g k2]? = some (.cells (rowI (markF (k2 + 10)) (ns k2)) 3)) := (HBl.out.block (g k2) (Array.getElem?_eq_some_iff.1 hrow0).1).trans hrow0
          clear hrow0
          have hgl3 : gl < wr.heap.size := Nat.lt_of_lt_of_le hglt HBl.out.size
          go_wp2
          generalize wr = W3 at HGr HBl hhd HR hgl3 ⊢
          go_loopw [7, 8] (fun s7 s8 wx => ∃ i : Nat, (i : Int) ≤ 6 ∧ s8 = .int .i64 i ∧ Hid (s7 = .slice (some ⟨g k2, 0, none⟩) (ns k2) (ns k2) ∧ i = 0 ∨ 0 < i ∧ Own wx W3.heap.size s7 (ns k2 + i) (markF (k2 + 10))) ∧ Hid (Below W3.heap.size W3 wx)) (fun _ s8 _ => 6 - (intOf s8).toNat)
          case atStart => exact ⟨0, by omega, rfl, .inl ⟨rfl, rfl⟩, Below.refl _ _⟩
          case round =>
            obtain ⟨i, hi, rfl, HS, HB3⟩ := hrel
            have hhd3 : wr.cell? ⟨gl, k2, none⟩ = some (.slice (some ⟨g k2, 0, none⟩) (ns k2) (ns k2)) := (HB3.out.cell (p := ⟨gl, k2, none⟩) hgl3).trans hhd
            by_cases hi2 : (i : Int) < 6
            · rcases HS.out with ⟨rfl, hi0⟩ | ⟨hpos, hown⟩
              · have HR3 : Hid (wr.heap[g k2]? = some (.cells (rowI (markF (k2 + 10)) (ns k2)) 3)) := (HB3.out.block (g k2) (Array.getElem?_eq_some_iff.1 HR.out).1).trans HR.out
                have HI0 : Hid (i = 0) := hi0
                clear HS hhd hi0
                go_wp2_with (first | (go_at_call 29; refine (HMK.out k2 (ns k2) i hkN hn (by omega) _).mono ?_; rintro e w' ⟨rfl, rfl⟩) | (at_builtin; refine wpList_first5 rfl (.tmp 50) (.tmp 61) rfl (g k2) (ns k2) (markF (k2 + 10)) _ rfl rfl HR3.out (by omega) ?_; intro v' w2 hown' hb2))
                refine ⟨⟨i + 1, by omega, by go_num, .inr ⟨by omega, ?_⟩, HB3.out.trans (hb2.mono HB3.out.size)⟩, by simp [intOf]; omega⟩
                have hi0 := HI0.out
                rw [upd_same _ _ _ (by omega)] at hown'
                rw [hi0]
                exact World.ownsRow.mono hown' HB3.out.size
              · clear HS hhd
                go_wp2_with (first | (go_at_call 29; refine (HMK.out k2 (ns k2) i hkN hn (by omega) _).mono ?_; rintro e w' ⟨rfl, rfl⟩) | (at_builtin; refine wpList_push5 rfl (.tmp 50) (.tmp 61) rfl W3.heap.size _ (ns k2 + i) (markF (k2 + 10)) _ rfl rfl hown (by omega) HB3.out.size ?_; intro v' w2 hown' _ hb2))
                refine ⟨⟨i + 1, by omega, by go_num, .inr ⟨by omega, ?_⟩, HB3.out.trans hb2⟩, by simp [intOf]; omega⟩
                rw [upd_same _ _ _ rfl] at hown'
                exact hown'
            · have hi6 : i = 6 := by omega
              have HO : Hid (Own wr W2.heap.size u7 (ns k2 + 6) (markF (k2 + 10))) := by
                rcases HS.out with ⟨_, h0⟩ | ⟨_, hown⟩
                · omega
                · rw [hi6] at hown
                  exact World.ownsRow.mono hown HBl.out.size
              obtain ⟨g7, c7, hu7, _⟩ := HO.out.some (by omega)
              subst hu7
              clear HS hhd hhd3
              go_wp2_with (first | (at_builtin; refine wpList_grow rfl (.tmp 63) (.tmp 65) rfl W2.heap.size ns k2 gv _ _ rfl rfl (HGr.out.later HB3.out) HO.out (by omega) (Nat.le_trans HBl.out.size HB3.out.size) ?_; intro v' w2 hG2 hb2))
              exact ⟨⟨k2 + 1, _, by omega, by go_num, hG2, (HBl.out.trans (HB3.out.mono HBl.out.size)).trans hb2⟩, by simp [intOf]; omega⟩
        · have e : k2 = K := by omega
          subst e
          have HC : Hid (∀ j, j < k2 → ∃ h c, gv j = .slice (some ⟨h, 0, none⟩) (ns j + 6) c ∧ ∀ i, i < ns j + 6 → wr.cell? ⟨h, i, none⟩ = some (.int .i64 (markF ((j : Int) + 10) i))) := fun j hj => by
            exact (HGr.out.each j hj).some (by omega)
          obtain ⟨G, cG, hu5, HD5⟩ : ∃ G cG, u5 = .slice (some ⟨G, 0, none⟩) k2 cG ∧ Hid (∀ j, j < k2 → wr.cell? ⟨G, j, none⟩ = some (gv j)) := by
            have hr := HGr.out.row
            obtain ⟨_, h2⟩ := hr
            rcases h2 with ⟨_, h0⟩ | ⟨G, cG, cur, hv, _⟩
            · omega
            · refine ⟨G, cG, hv, fun j hj => ?_⟩
              have hr := HGr.out.row
              rw [hv] at hr
              rw [World.ownsRow.cellAt hr j (by omega)]
              simp [hj]
          subst hu5
          have HE : Hid (∀ j, j < k2 → wr.cell? ⟨gl, j, none⟩ = some (.slice (some ⟨g j, 0, none⟩) (ns j) (ns j)) ∧ ∀ i, i < ns j → wr.cell? ⟨g j, i, none⟩ = some (.int .i64 (markF ((j : Int) + 10) i))) := fun j hj => by
            refine ⟨(HBl.out.cell (p := ⟨gl, j, none⟩) hglt).trans (HM.out.head j hj), fun i hi => ?_⟩
            have hrow0 := HM.out.row j hj
            exact cell_rowI ((HBl.out.block (g j) (Array.getElem?_eq_some_iff.1 hrow0).1).trans hrow0) i hi
          have HF : Hid (Below base w wr) := HM.out.below.trans (HBl.out.mono (Nat.le_trans hbase HM.out.below.size))
          clear HGr HBl HM hglt
          go_wp2
          generalize wr = W4 at HC HD5 HE HF ⊢
          go_loopw [9] (fun s9 wx => ∃ k d : Nat, (k : Int) ≤ k2 ∧ s9 = .int .i64 k ∧ wx = W4.drewN d) (fun s9 _ => k2 - (intOf s9).toNat)
          case atStart => exact ⟨0, 0, by omega, rfl, rfl⟩
          case round =>
            obtain ⟨k5, d, hk5, rfl, rfl⟩ := hrel
            by_cases hk6 : (k5 : Int) < k2
            · have hkN : k5 < k2 := by omega
              have hn := HNS.out k5 hkN
              obtain ⟨h, c, hgv, hc⟩ := HC.out k5 hkN
              have hc5 := HD5.out k5 hkN
              rw [hgv] at hc5
              obtain ⟨hc6, hc7⟩ := HE.out k5 hkN
              have hwr : IntKind.i64.wrap ((k5 : Int) + 10) = (k5 : Int) + 10 := by rw [IntKind.wrap_i64]; omega
              have HCc := (show Hid _ from hc)
              have HC7 := (show Hid _ from hc7)
              clear hc hc7
              go_wp2
              go_loopw [10] (fun s10 wx => ∃ i d : Nat, (i : Int) ≤ ns k5 + 6 ∧ s10 = .int .i64 i ∧ wx = W4.drewN d) (fun s10 _ => ns k5 + 6 - (intOf s10).toNat)
              case atStart => exact ⟨0, _, by omega, rfl, rfl⟩
              case round =>
                obtain ⟨i, d2, hi, rfl, rfl⟩ := hrel
                by_cases hi2 : (i : Int) < ns k5 + 6
                · have hci := HCc.out i (by omega)
                  have hmk : ∀ u, Calls Try.prog 29 #[.int .i64 ((k5 : Int) + 10), .int .i64 (i : Int)] u fun e u' => e = .returned (.int .i64 (markF ((k5 : Int) + 10) i)) ∧ u' = u := fun u => mark_any ((k5 : Int) + 10) i u (by omega) (by omega)
                  by_cases hi3 : (i : Int) < ns k5
                  · have hc8 := HC7.out i (by omega)
                    go_wp2
                    go_quiet ((go_at_call 29; exact (hmk _).mono fun _ _ h => ⟨h.1, ⟨_, h.2⟩⟩))
                    go_wp2
                    exact ⟨⟨i + 1, _, by omega, by go_num, rfl⟩, by simp [intOf]; omega⟩
                  · have hi4 : decide ((i : Int) < (ns k5 : Int)) = false := by simpa using hi3
                    have hi5 : decide (i < ns k5) = false := by simp; omega
                    go_wp2
                    go_quiet ((go_at_call 29; exact (hmk _).mono fun _ _ h => ⟨h.1, ⟨_, h.2⟩⟩))
                    go_wp2
                    exact ⟨⟨i + 1, _, by omega, by go_num, rfl⟩, by simp [intOf]; omega⟩
                · go_wp2
                  exact ⟨⟨k5 + 1, _, by omega, by go_num, rfl⟩, by simp [intOf]; omega⟩
            · go_wp2
              go_ret
              exact ⟨rfl, below_drewN' HF.out _⟩
end Go.Proofs.Ytgkhheblmknedaa
