/- A disk filled as numbers say, the document's beside it; no condition. -/
import Derived.Test.YtencclpcebpgmaaImg
namespace Go.Proofs.Ytencclpcebpgmaa
open Go.RowKit Go.Maps

theorem wpList_appendN {ops : Array Oper} {rest : List Oper} {o : Oper} {a : Act} {W : World} {Q : Exit → Act → World → Prop} (hgd : o.guard = none) (x y : Operand)
    (ho : o.op = .call { callee := .builtin .append, args := #[x, y], argTypes := #[49, 49] }) (B : Nat) (v : Value) (n : Nat) (hx : a.eval x = .slice none 0 0)
    (hy : a.eval y = v) (hown : Blocks W B v n) (hn : 0 < n ∧ n < 1000)
    (h : ∀ p c W', Below W.heap.size W W' → wpList Try.prog ops Q rest (a.put o.dst (.slice p n c)) W') :
    wpList Try.prog ops Q (o :: rest) a W := by
  obtain ⟨i0, hi0, hz0, hz1, hz2⟩ := info_parts info59b
  obtain ⟨cs, hown⟩ := hown
  rcases hown.2 with ⟨_, q⟩ | ⟨g, cap, cur, rfl, hg, hh, hc, _⟩
  · omega
  refine wpList_plain hgd fun K' hK' => ?_
  have hr := run_append_nil (P := Try.prog) W 49 o.type 59 i0 _ Try.underlying49 hi0 hz0 ⟨g, 0, none⟩ n cap cs (by rw [hz1]; exact hown.1) (hown.cells (g := g) rfl) (by omega) (by omega) (by rw [hz2]; omega)
  unfold Oper.wp
  simp [execOp, ho, resolve, invoke, builtin, hx, hy, hr, Result.andThen]
  exact hK' _ _ (h _ _ _ ((Below.refl _ _).drew.alloc (by simp) _))
def refRow (p q : Value) : Array Value := #[p, q, .int .i64 (-1), .bool false, .int .i64 0, .int .i64 0]
theorem Blocks.later {w w' : World} {B n : Nat} {v : Value} (h : Blocks w B v n) (hb : Below w.heap.size w w') : Blocks w' B v n := by
  obtain ⟨cs, h⟩ := h
  exact ⟨cs, ownsRow_kept0 h fun k hk => hb.block k (h.lt k hk).2⟩
set_option maxRecDepth 20000 in
theorem newDisk_any {W : World} {B n : Nat} {v : Value} (hown : Blocks W B v n) (hn : 0 < n ∧ n < 1000) : Calls Try.prog 40 #[v] W fun e w' => ∃ p, e = .returned (.pointer p) ∧ Below W.heap.size W w' := by
  have hR := heap_alloc_new W (.cells (refRow (.slice none 0 0) (.slice none 0 0)) 51)
  have hB1 := below_new W (.cells (refRow (.slice none 0 0) (.slice none 0 0)) 51)
  have hown1 := hown.later hB1
  have HD : Hid (∀ W1 (p : Option Addr) (c : Nat), Below (W.alloc (.cells (refRow (.slice none 0 0) (.slice none 0 0)) 51)).heap.size (W.alloc (.cells (refRow (.slice none 0 0) (.slice none 0 0)) 51)) W1 →
      W1.cell? ⟨W.heap.size, 0, none⟩ = some (.slice none 0 0) ∧ W1.frozen? ⟨W.heap.size, 0, none⟩ = false ∧ (W1.setCell ⟨W.heap.size, 0, none⟩ (.slice p n c)).cell? ⟨W.heap.size, 1, none⟩ = some (.slice none 0 0) ∧ Blocks (W1.setCell ⟨W.heap.size, 0, none⟩ (.slice p n c)) B v n ∧
      ∀ W2 (p2 : Option Addr) (c2 : Nat), Below (W1.setCell ⟨W.heap.size, 0, none⟩ (.slice p n c)).heap.size (W1.setCell ⟨W.heap.size, 0, none⟩ (.slice p n c)) W2 →
        W2.cell? ⟨W.heap.size, 1, none⟩ = some (.slice none 0 0) ∧ W2.frozen? ⟨W.heap.size, 1, none⟩ = false ∧ Below W.heap.size W (W2.setCell ⟨W.heap.size, 1, none⟩ (.slice p2 n c2))) := by
    intro W1 p c hb
    have h1 := heap_kept hR hb
    have h2 := Joins.block_setCell (i := 0) h1 (.slice p n c)
    have hw1 : Below W.heap.size W (W1.setCell ⟨W.heap.size, 0, none⟩ (.slice p n c)) := (below_next hB1 hb).setCell (Nat.le_refl _) _
    refine ⟨Joins.cell_of_block h1 0, Joins.unfrozen_of_block h1 0, Joins.cell_of_block h2 1, ?_, ?_⟩
    · obtain ⟨cs, hc⟩ := hown
      exact ⟨cs, ownsRow_kept0 hc fun k hk => hw1.block k (hc.lt k hk).2⟩
    · intro W2 p2 c2 hb2
      have h3 := heap_kept h2 hb2
      exact ⟨Joins.cell_of_block h3 1, Joins.unfrozen_of_block h3 1, (below_next hw1 hb2).setCell (Nat.le_refl _) _⟩
  have c0 : (W.alloc (.cells (refRow (.slice none 0 0) (.slice none 0 0)) 51)).cell? ⟨W.heap.size, 0, none⟩ = some (.slice none 0 0) := Joins.cell_of_block hR 0
  clear hown hR hB1
  unfold refRow at *
  go_enter Try.func40, Try.ntmps40
  go_wp2_with (first | (at_builtin; refine wpList_appendN rfl (.tmp 10) (.tmp 11) rfl B v n rfl rfl hown1 hn ?_; intro p1 c1 W1 hb1; obtain ⟨d0, f0, d1, hown2, hD2⟩ := HD.out W1 p1 c1 hb1; have HD2 : Hid _ := hD2; clear HD hD2 hb1 hown1 c0; generalize hV1 : W1.setCell ⟨W.heap.size, 0, none⟩ (.slice p1 n c1) = V1 at *) | (at_builtin; refine wpList_appendN rfl (.tmp 19) (.tmp 20) rfl B v n rfl rfl hown2 hn ?_; intro p2 c2 W2 hb2; obtain ⟨e0, g0, hfin⟩ := HD2.out W2 p2 c2 hb2; have HFin : Hid _ := hfin; clear HD2 hfin hb2 hown2 d1 d0))
  go_ret
  exact ⟨_, rfl, HFin.out⟩
/-- The image that a law has built so far, and the list of blocks beside it. -/
structure DI (w W : World) (g : Nat) (n : Int) (v5 v6 : Value) (l : List Cel) (k : Nat) : Prop where
  row : W.heap[g]? = some (.cells #[.int .i64 n, v5] 92)
  im : W.ownsRow (g + 1) 94 1025 v5 l.length (celCells l)
  bl : Blocks W (g + 1) v6 k
  ne : ∀ a, v5.ownBlock = some a → v6.ownBlock ≠ some a
  bel : Below g w W
section
variable {w W W' : World} {g : Nat} {n : Int} {v5 v6 : Value} {l : List Cel} {k : Nat}
theorem DI.lt (h : DI w W g n v5 v6 l k) : g < W.heap.size := (Array.getElem?_eq_some_iff.1 h.row).1
theorem DI.later (h : DI w W g n v5 v6 l k) (hb : Below W.heap.size W W') : DI w W' g n v5 v6 l k :=
  ⟨heap_kept h.row hb, ownsRow_kept0 h.im fun a ha => hb.block a (h.im.lt a ha).2, h.bl.later hb, h.ne, h.bel.trans (hb.mono (Nat.le_of_lt h.lt))⟩
theorem DI.block (h : DI w W g n v5 v6 l k) {o : Obj} {v6' : Value} (h1 : Blocks W' (g + 1) v6' (k + 1)) (h2 : (W.alloc o).grownBy W' v6.ownBlock) (h3 : Below (g + 1) W W') (h4 : ∀ a, v6'.ownBlock = some a → v6.ownBlock = some a ∨ W.heap.size < a) : DI w W' g n v5 v6' l (k + 1) := by
  refine ⟨(h3.block g (by omega)).trans h.row, ownsRow_kept0 h.im fun a ha => ?_, h1, fun a ha hq => ?_, h.bel.trans (h3.mono (by omega))⟩
  · have hlt := (h.im.lt a ha).2
    rw [h2.block a (by simp; omega) (fun q => h.ne a ha q.symm), heap_alloc_old W o hlt]
  · rcases h4 a hq with q | q
    · exact h.ne a ha q
    · have := (h.im.lt a ha).2; omega
theorem DI.cel (h : DI w W g n v5 v6 l k) {o : Obj} {c : Cel} {v5' : Value} (h1 : W'.ownsRow (g + 1) 94 1025 v5' (l ++ [c]).length (celCells (l ++ [c]))) (h2 : (W.alloc o).grownBy W' v5.ownBlock) (h3 : Below (g + 1) W W') (h4 : ∀ a, v5'.ownBlock = some a → v5.ownBlock = some a ∨ W.heap.size < a) :
    DI w (W'.setCell ⟨g, 1, none⟩ v5') g n v5' v6 (l ++ [c]) k ∧ W'.cell? ⟨g, 1, none⟩ = some v5 ∧ W'.frozen? ⟨g, 1, none⟩ = false := by
  have hrow := (h3.block g (by omega)).trans h.row
  obtain ⟨cs, hbl⟩ := h.bl
  have hne6 : ∀ a, v6.ownBlock = some a → a ≠ g := fun a ha => by have := (hbl.lt a ha).1; omega
  have hne5 : ∀ a, v5'.ownBlock = some a → a ≠ g := fun a ha => by have := (h1.lt a ha).1; omega
  refine ⟨⟨?_, ownsRow_kept0 h1 fun a ha => Below.heap_setCell _ _ _ _ (hne5 a ha), ⟨cs, ownsRow_kept0 hbl fun a ha => ?_⟩, fun a ha hq => ?_, (h.bel.trans (h3.mono (by omega))).setCell (Nat.le_refl _) _⟩, Joins.cell_of_block hrow 1, Joins.unfrozen_of_block hrow 1⟩
  · rw [Joins.block_setCell hrow]
    rfl
  · have hlt := (hbl.lt a ha).2
    rw [Below.heap_setCell _ _ _ _ (hne6 a ha), h2.block a (by simp; omega) (fun q => h.ne a q.symm ha), heap_alloc_old W o hlt]
  · rcases h4 a ha with q | q
    · exact h.ne a q hq
    · have := (hbl.lt a hq).2; omega
end
/-- The image of numbers. -/
def imgL (xs : Nat → Int) : Nat → List Cel
  | 0 => []
  | k + 1 => if sameB (fillF (xs k)) nought then imgL xs k else imgL xs k ++ [((k : Int), fillF (xs k))]
theorem imgL_len (xs : Nat → Int) : ∀ k, (imgL xs k).length ≤ k
  | 0 => Nat.le_refl _
  | k + 1 => by
    have := imgL_len xs k
    unfold imgL
    split
    · omega
    · rw [List.length_append]; simp; omega
theorem imgL_mem (xs : Nat → Int) : ∀ k c, c ∈ imgL xs k → (0 ≤ c.1 ∧ c.1 < k) ∧ c.2 = fillF (xs c.1.toNat) ∧ sameB c.2 nought = false
  | 0, c, h => by simp [imgL] at h
  | k + 1, c, h => by
    unfold imgL at h
    cases hs : sameB (fillF (xs k)) nought with
    | true =>
      rw [hs, if_pos rfl] at h
      obtain ⟨h1, h2⟩ := imgL_mem xs k c h
      exact ⟨by omega, h2⟩
    | false =>
      rw [hs, if_neg (by simp)] at h
      rcases List.mem_append.1 h with h | h
      · obtain ⟨h1, h2⟩ := imgL_mem xs k c h
        exact ⟨by omega, h2⟩
      · obtain rfl : c = ((k : Int), fillF (xs k)) := by simpa using h
        exact ⟨by simp; omega, by simp, hs⟩
theorem risesB_snoc (n : Int) (c : Cel) : ∀ (l : List Cel) (a : Int), risesB n a l = true → (∀ x ∈ l, x.1 < c.1) → a < c.1 → c.1 < n → blankB c.2 = false → risesB n a (l ++ [c]) = true
  | [], a, _, _, h1, h2, h3 => by
    simp [risesB, h3]
    omega
  | x :: t, a, h, hx, h1, h2, h3 => by
    unfold risesB at h
    simp only [Bool.and_eq_true] at h
    show risesB n a (x :: (t ++ [c])) = true
    unfold risesB
    simp only [Bool.and_eq_true]
    exact ⟨h.1, risesB_snoc n c t x.1 h.2 (fun y hy => hx y (List.mem_cons_of_mem _ hy)) (hx x (List.mem_cons_self ..)) h2 h3⟩
theorem imgL_may (xs : Nat → Int) {n : Nat} (hn : 1 ≤ n ∧ n ≤ 64) : mayB (n : Int) (imgL xs n) = true := by
  have key : ∀ k, k ≤ n → risesB (n : Int) (-1) (imgL xs k) = true := by
    intro k
    induction k with
    | zero => intro _; rfl
    | succ k ih =>
      intro hk
      have h1 := ih (by omega)
      unfold imgL
      cases hs : sameB (fillF (xs k)) nought with
      | true => rw [if_pos rfl]; exact h1
      | false =>
        rw [if_neg (by simp)]
        exact risesB_snoc _ _ _ _ h1 (fun x hx => (imgL_mem xs k x hx).1.2) (by simp; omega) (by simp; omega) hs
  unfold mayB
  rw [key n (Nat.le_refl _)]
  have hb : bndB (n : Int) = true := by unfold bndB; simp; omega
  rw [hb]
  rfl
end Go.Proofs.Ytencclpcebpgmaa
