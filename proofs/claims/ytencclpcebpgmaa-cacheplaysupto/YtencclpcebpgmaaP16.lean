/- Several texts joined, each with its own remark; no condition. -/
import Derived.Test.YtencclpcebpgmaaP15
import Derived.Test.YtencclpcebpgmaaP12
import Derived.Test.YtencclpcebpgmaaP14
import Derived.Deep.Cut
import Derived.Deep.CutRange
/- Both disks filled as numbers say, with what they hold; no condition. -/
namespace Go.Proofs.Ytencclpcebpgmaa
open Go.RowKit Go.Maps
/-- The slice v owns these blocks. -/
def BlksL (w : World) (B : Nat) (v : Value) (ms : List (Nat → Int)) : Prop := w.ownsRow B 59 1024 v ms.length (ms.flatMap enK)
theorem BlksL.later {w w' : World} {B : Nat} {v : Value} {ms : List (Nat → Int)} (h : BlksL w B v ms) (hb : Below w.heap.size w w') : BlksL w' B v ms := ownsRow_kept0 h fun k hk => hb.block k (World.ownsRow.lt h k hk).2
theorem wpList_pushK {ops : Array Oper} {rest : List Oper} {o : Oper} {a : Act} {W : World} {Q : Exit → Act → World → Prop} (hgd : o.guard = none) (x y : Operand)
    (ho : o.op = .call { callee := .builtin .append, args := #[x, y], argTypes := #[49, 49] }) (B : Nat) (v : Value) (ms : List (Nat → Int)) (f : Nat → Int) (hx : a.eval x = v)
    (hy : a.eval y = .slice (some ⟨W.heap.size, 0, none⟩) 1 1) (hown : BlksL W B v ms) (hB : B ≤ W.heap.size) (hn : ms.length < 1000)
    (h : ∀ v' W', BlksL W' B v' (ms ++ [f]) → (W.alloc (.cells (blk f) 59)).grownBy W' v.ownBlock → Below B W W' → (∀ k, v'.ownBlock = some k → v.ownBlock = some k ∨ W.heap.size < k) → wpList Try.prog ops Q rest (a.put o.dst v') W') :
    wpList Try.prog ops Q (o :: rest) a (W.alloc (.cells (blk f) 59)) := by
  obtain ⟨i0, hi0, hz0, hz1, hz2⟩ := info_parts info59b
  have hown1 := World.ownsRow.alloc hown (.cells (blk f) 59)
  have hnews : ∀ j u, (blk f).toList[j]? = some u → (W.alloc (.cells (blk f) 59)).cell? ((⟨W.heap.size, 0, none⟩ : Addr).add j) = some u := fun j u hu => by
    rw [Go.WideShapes.add_plain, Nat.zero_add, cell_of_row _ _ j _ 59 _ (heap_alloc_new W _)]
    simpa using hu
  refine wpList_append_own_at _ hgd x y 49 ho B 59 i0 _ 1024 1024 Try.underlying49 hi0 hz0 hz1 hz2 (blk_size _) (by decide) v ms.length _ hx hown1 ⟨W.heap.size, 0, none⟩ 1 1 (blk f).toList hy (by rw [blk_list_len]) hnews (blk_ones f)
    (by unfold maxLen; omega) (by omega) (by simp; omega) ?_
  intro v' W' h1 h2 h3 h4
  refine h v' W' (by unfold BlksL; rw [List.length_append, List.flatMap_append]; simpa [enK] using h1) h2 (((Below.refl _ _).alloc hB _).grown h2 (by simp; omega) fun k hk => (World.ownsRow.lt hown k hk).1) fun k hk => ?_
  rcases h4 with q | q
  · exact .inl (q ▸ hk)
  · rw [q] at hk
    injection hk with hk
    simp at hk
    exact .inr (by omega)
/-- The image that a law has built so far, and the list of blocks beside it. -/
structure DJ (w W : World) (g : Nat) (n : Int) (v5 v6 : Value) (l : List Cel) (ms : List (Nat → Int)) : Prop where
  row : W.heap[g]? = some (.cells #[.int .i64 n, v5] 92)
  im : W.ownsRow (g + 1) 94 1025 v5 l.length (celCells l)
  bl : BlksL W (g + 1) v6 ms
  ne : ∀ a, v5.ownBlock = some a → v6.ownBlock ≠ some a
  bel : Below g w W
section
variable {w W W' : World} {g : Nat} {n : Int} {v5 v6 : Value} {l : List Cel} {ms ms' : List (Nat → Int)}
theorem DJ.lt (h : DJ w W g n v5 v6 l ms) : g < W.heap.size := (Array.getElem?_eq_some_iff.1 h.row).1
theorem DJ.later (h : DJ w W g n v5 v6 l ms) (hb : Below W.heap.size W W') : DJ w W' g n v5 v6 l ms :=
  ⟨heap_kept h.row hb, ownsRow_kept0 h.im fun a ha => hb.block a (h.im.lt a ha).2, h.bl.later hb, h.ne, h.bel.trans (hb.mono (Nat.le_of_lt h.lt))⟩
theorem DJ.block (h : DJ w W g n v5 v6 l ms) {o : Obj} {v6' : Value} (h1 : BlksL W' (g + 1) v6' ms') (h2 : (W.alloc o).grownBy W' v6.ownBlock) (h3 : Below (g + 1) W W') (h4 : ∀ a, v6'.ownBlock = some a → v6.ownBlock = some a ∨ W.heap.size < a) : DJ w W' g n v5 v6' l ms' := by
  refine ⟨(h3.block g (by omega)).trans h.row, ownsRow_kept0 h.im fun a ha => ?_, h1, fun a ha hq => ?_, h.bel.trans (h3.mono (by omega))⟩
  · have hlt := (h.im.lt a ha).2
    rw [h2.block a (by simp; omega) (fun q => h.ne a ha q.symm), heap_alloc_old W o hlt]
  · rcases h4 a hq with q | q
    · exact h.ne a ha q
    · have := (h.im.lt a ha).2; omega
theorem DJ.cel (h : DJ w W g n v5 v6 l ms) {o : Obj} {c : Cel} {v5' : Value} (h1 : W'.ownsRow (g + 1) 94 1025 v5' (l ++ [c]).length (celCells (l ++ [c]))) (h2 : (W.alloc o).grownBy W' v5.ownBlock) (h3 : Below (g + 1) W W') (h4 : ∀ a, v5'.ownBlock = some a → v5.ownBlock = some a ∨ W.heap.size < a) :
    DJ w (W'.setCell ⟨g, 1, none⟩ v5') g n v5' v6 (l ++ [c]) ms ∧ W'.cell? ⟨g, 1, none⟩ = some v5 ∧ W'.frozen? ⟨g, 1, none⟩ = false := by
  have hrow := (h3.block g (by omega)).trans h.row
  have hbl := h.bl
  have hne6 : ∀ a, v6.ownBlock = some a → a ≠ g := fun a ha => by have := (hbl.lt a ha).1; omega
  have hne5 : ∀ a, v5'.ownBlock = some a → a ≠ g := fun a ha => by have := (h1.lt a ha).1; omega
  refine ⟨⟨?_, ownsRow_kept0 h1 fun a ha => Below.heap_setCell _ _ _ _ (hne5 a ha), ownsRow_kept0 hbl fun a ha => ?_, fun a ha hq => ?_, (h.bel.trans (h3.mono (by omega))).setCell (Nat.le_refl _) _⟩, Joins.cell_of_block hrow 1, Joins.unfrozen_of_block hrow 1⟩
  · rw [Joins.block_setCell hrow]
    rfl
  · have hlt := (hbl.lt a ha).2
    rw [Below.heap_setCell _ _ _ _ (hne6 a ha), h2.block a (by simp; omega) (fun q => h.ne a q.symm ha), heap_alloc_old W o hlt]
  · rcases h4 a ha with q | q
    · exact h.ne a q hq
    · have := (hbl.lt a hq).2; omega
end
set_option maxRecDepth 20000 in
set_option maxHeartbeats 4000000 in
theorem disks_both {W : World} (pa : Option Addr) (n cap : Nat) (xs : Nat → Int) (hn : 1 ≤ n ∧ n ≤ 64) (hx : U16At W pa n xs) :
    Calls Try.prog 10 #[.slice pa n cap] W fun e W' => ∃ (L : Loc) (R : RL), e = .returned (.tuple #[ptr L.d, .pointer (some ⟨R.g, 0, none⟩), .bool true]) ∧ DiskAt W' L (loadV (n : Int) (imgL xs n)) ∧ RDk W' R n ⟨mks (fun j => fillF (xs j)) n, mks (fun j => fillF (xs j)) n, -1, false, 0, 0⟩ ∧ L.from W.heap.size ∧ (∀ k, R.has k → W.heap.size ≤ k ∧ ¬ L.has k) ∧ Below W.heap.size W W' := by
  have HX : Hid (U16At W pa n xs) := hx
  have z25 := zero25
  have hbd := built58
  have hR := heap_alloc_new W (.cells #[.int .i64 (n : Int), .slice none 0 0] 92)
  have hB1 := below_new W (.cells #[.int .i64 (n : Int), .slice none 0 0] 92)
  have HDJ : Hid (DJ W (W.alloc (.cells #[.int .i64 (n : Int), .slice none 0 0] 92)) W.heap.size n (.slice none 0 0) (.slice none 0 0) (imgL xs 0) (mks (fun j => fillF (xs j)) 0)) :=
    ⟨hR, World.ownsRow_nil _ _ 94 1025, World.ownsRow_nil _ _ 59 1024, (fun a ha => by cases ha), hB1⟩
  clear hx hR hB1
  go_enter Try.func10, Try.ntmps10
  go_wp2
  generalize hg : W.heap.size = g at *
  go_loopw [6, 7] (fun s6 s7 wx => ∃ (k : Nat) (v5 : Value), k ≤ n ∧ s7 = .int .i64 k ∧ Hid (DJ W wx g n v5 s6 (imgL xs k) (mks (fun j => fillF (xs j)) k))) (fun _ s7 _ => n - (intOf s7).toNat)
  case atStart => exact ⟨0, _, by omega, rfl, HDJ.out⟩
  case round =>
    obtain ⟨k, v5, hk, rfl, HD⟩ := hrel
    clear HDJ
    by_cases hkn : (k : Int) < n
    · obtain ⟨b, off, rfl, hbl, hcell, hy1, hy2⟩ := HX.out k (by omega)
      have hcw : wr.cell? ⟨b, off + k, none⟩ = some (.int .u16 (xs k)) := (HD.out.bel.cell (p := ⟨b, off + k, none⟩) (by rw [← hg]; exact hbl)).trans hcell
      have HF : Hid (Calls Try.prog 35 _ wr _) := fill_any (xs k) ⟨hy1, hy2⟩ wr
      have hIm : imgL xs (k + 1) = if sameB (fillF (xs k)) nought then imgL xs k else imgL xs k ++ [((k : Int), fillF (xs k))] := rfl
      have HIm : Hid (imgL xs (k + 1) = if sameB (fillF (xs k)) nought then imgL xs k else imgL xs k ++ [((k : Int), fillF (xs k))]) := hIm
      have hll := imgL_len xs k
      have HMs : Hid (mks (fun j => fillF (xs j)) (k + 1) = (mks (fun j => fillF (xs j)) k) ++ [fillF (xs k)]) := mks_succ _ _
      have hml : (mks (fun j => fillF (xs j)) k).length = k := mks_len _ _
      have HBL := (show Hid _ from HD.out.bl)
      clear hcell hIm
      generalize (mks (fun j => fillF (xs j)) k) = ms at *
      generalize fillF (xs k) = f at *
      generalize xs k = y at *
      generalize imgL xs k = l at *
      go_wp2_with (go_at_call 35; fail)
      refine HF.out.mono ?_
      rintro e W1 ⟨rfl, hb1⟩
      have h1 := (HD.out.later hb1).later (below_new W1 (.cells (blk f) 59))
      have hR8 := heap_alloc_new W1 (.cells (blk f) 59)
      have H1 : Hid (DJ W (W1.alloc (.cells (blk f) 59)) g n v5 u6 l ms) := h1
      have hsz1 := hb1.size
      have hbl6 := HD.out.bl
      have hne6 : ∀ a, u6.ownBlock = some a → a < W1.heap.size := fun a ha => by have := (hbl6.lt a ha).2; omega
      have hne5 : ∀ a, v5.ownBlock = some a → a < W1.heap.size := fun a ha => by have := (HD.out.im.lt a ha).2; omega
      clear HD HF hb1 h1 hcw hbl6 hsz1 HBL
      go_upto_region 7 with (refine wpList_store58_new rfl (.tmp 8) (.tmp 24) rfl f _ _ rfl rfl rfl ?_)
      have hbl2 := H1.out.bl
      have hB2 : g + 1 ≤ (W1.alloc (.cells (blk f) 59)).heap.size := H1.out.lt
      have hg8lt : W1.heap.size < (W1.alloc (.cells (blk f) 59)).heap.size := by simp
      generalize hg8 : W1.heap.size = g8 at *
      generalize hW2 : W1.alloc (.cells (blk f) 59) = W2 at *
      have hk64 : ms.length < 1000 := by omega
      have HR8 : Hid (∀ W3, (W2.alloc (.cells (blk f) 59)).grownBy W3 u6.ownBlock → W3.heap[g8]? = some (.cells (blk f) 59)) := fun W3 p2 => by
        rw [p2.block g8 (by simp; omega) (fun q => by have := hne6 g8 q.symm; omega), heap_alloc_old W2 _ hg8lt]
        exact hR8
      cases hb : sameB f nought
      · have HI2 : Hid (imgL xs (k + 1) = l ++ [((k : Int), f)]) := by
          have := HIm.out
          rw [hb, if_neg (by simp)] at this
          exact this
        have hl1000 : l.length < 1000 := by omega
        clear HIm
        generalize nought = N at *
        go_wp2_with (first | (refine wpList_load25 rfl (.tmp 8) rfl g8 rfl f hR8 ?_) | (refine wpList_build1 rfl 49 59 (.tmp 26) rfl _ rfl (build49 f _) ?_) | (at_builtin; refine wpList_pushK rfl (.tmp 25) (.tmp 27) rfl (g + 1) u6 ms f rfl rfl hbl2 hB2 hk64 ?_; intro v6 W3 p1 p2 p3 p4; have H3 : Hid (DJ W W3 g n v5 v6 l (ms ++ [f])) := H1.out.block p1 p2 p3 p4; have hR83 := HR8.out W3 p2; have c51 := Joins.cell_of_block H3.out.row 1; have hown5 := H3.out.im; have hB3 : g + 1 ≤ W3.heap.size := H3.out.lt; clear p1 p2 p3 p4 hbl2 hR8 H1 HR8) | (refine wpList_load25 rfl (.tmp 8) rfl g8 rfl f hR83 ?_) | (refine wpList_build58 rfl rfl hbd ?_) | (refine wpList_neqB rfl (.tmp 29) (.tmp 30) rfl f N false rfl rfl hb ?_) | (refine wpList_build85 rfl (.tmp 34) (.tmp 35) rfl k f rfl rfl ?_) | (refine wpList_build1 rfl 90 94 (.tmp 36) rfl _ rfl (build30 ((k : Int), f) _) ?_) | (at_builtin; refine wpList_pushC rfl (.tmp 33) (.tmp 37) rfl (g + 1) v5 l ((k : Int), f) rfl rfl hown5 hB3 hl1000 ?_; intro v5' W4 q1 q2 q3 q4; obtain ⟨g', cap', rfl⟩ := slice_ofC q1 (by simp); obtain ⟨r1, r2, r3⟩ := H3.out.cel q1 q2 q3 q4; rw [List.length_append, show [((k : Int), f)].length = 1 from rfl] at r1; have H4 : Hid (DJ W (W4.setCell ⟨g, 1, none⟩ _) g n _ v6 (l ++ [((k : Int), f)]) (ms ++ [f])) := r1; clear q1 q2 q3 q4 r1 hown5 H3 c51))
        refine ⟨⟨k + 1, _, by omega, by go_num, (by show DJ _ _ _ _ _ _ _ _; rw [HI2.out, HMs.out]; exact H4.out)⟩, by simp [intOf]; omega⟩
      · have HI2 : Hid (imgL xs (k + 1) = l) := by
          have := HIm.out
          rw [hb, if_pos rfl] at this
          exact this
        clear HIm
        generalize nought = N at *
        go_wp2_with (first | (refine wpList_load25 rfl (.tmp 8) rfl g8 rfl f hR8 ?_) | (refine wpList_build1 rfl 49 59 (.tmp 26) rfl _ rfl (build49 f _) ?_) | (at_builtin; refine wpList_pushK rfl (.tmp 25) (.tmp 27) rfl (g + 1) u6 ms f rfl rfl hbl2 hB2 hk64 ?_; intro v6 W3 p1 p2 p3 p4; have H3 : Hid (DJ W W3 g n v5 v6 l (ms ++ [f])) := H1.out.block p1 p2 p3 p4; have hR83 := HR8.out W3 p2; clear p1 p2 p3 p4 hbl2 hR8 H1 HR8) | (refine wpList_load25 rfl (.tmp 8) rfl g8 rfl f hR83 ?_) | (refine wpList_build58 rfl rfl hbd ?_) | (refine wpList_neqB rfl (.tmp 29) (.tmp 30) rfl f N true rfl rfl hb ?_))
        refine ⟨⟨k + 1, v5, by omega, by go_num, ?_⟩, by simp [intOf]; omega⟩
        show DJ _ _ _ _ _ _ _ _
        rw [HI2.out, HMs.out]
        exact H3.out
    · obtain rfl : k = n := by omega
      have hmay := imgL_may xs hn
      have hll := imgL_len xs k
      obtain ⟨p5, c5, rfl, hI5⟩ := ImgAt.of HD.out.im
      have hcan : ∀ c ∈ imgL xs k, Can c.2 := fun c hc => by
        obtain ⟨h1, h2, _⟩ := imgL_mem xs k c hc
        rw [h2]
        obtain ⟨_, _, _, _, _, y1, y2⟩ := HX.out c.1.toNat (by omega)
        exact fill_can _ ⟨y1, y2⟩
      have HLd : Hid (Calls Try.prog 39 #[.agg #[.int .i64 (k : Int), .slice p5 (imgL xs k).length c5]] wr _) := load_ok (k : Int) (imgL xs k) p5 c5 wr (by omega) hI5 hcan hmay
      have hrow := HD.out.row
      have i0 : wr.cell? ⟨g, 0, none⟩ = some (.int .i64 (k : Int)) := Joins.cell_of_block hrow 0
      have i1 : wr.cell? ⟨g, 1, none⟩ = some (.slice p5 (imgL xs k).length c5) := Joins.cell_of_block hrow 1
      obtain ⟨p6, c6, hu6, _⟩ := own_slice HD.out.bl
      rw [mks_len] at hu6
      subst hu6
      have hll6 : LiesE enK 1024 wr p6 (mks (fun j => fillF (xs j)) k) := own_lies lenK (by have := HD.out.bl; unfold BlksL at this; rw [mks_len] at this ⊢; exact this)
      have HL6 : Hid (LiesE enK 1024 wr p6 (mks (fun j => fillF (xs j)) k)) := hll6
      have HBel : Hid (Below g W wr) := HD.out.bel
      have hgs : g ≤ wr.heap.size := Nat.le_of_lt HD.out.lt
      have HMl : Hid ((mks (fun j => fillF (xs j)) k).length = k) := mks_len _ _
      clear HD hI5 hcan hrow HX hmay hll hll6
      generalize hl : (imgL xs k).length = m at *
      go_wp2_with (go_at_call 39; fail)
      refine HLd.out.mono ?_
      rintro e W5 ⟨L, rfl, hD5, hL5, hb5⟩
      have hnd := newDisk6 (c := c6) (HL6.out.later hb5) (by rw [HMl.out]; omega) (by rw [HMl.out]; omega)
      rw [HMl.out] at hnd
      have HND : Hid (Calls Try.prog 40 _ W5 _) := hnd
      have hlt5 : ∀ q, L.has q → q < W5.heap.size := hD5.lt
      have HFin : Hid (∀ W6, Below W5.heap.size W5 W6 → DiskAt W6 L (loadV (k : Int) (imgL xs k)) ∧ L.from g ∧ Below g W W6 ∧ g ≤ W5.heap.size ∧ ∀ q, L.has q → q < W5.heap.size) := fun W6 hb6 =>
        ⟨hD5.later hb6, fun q hq => by have := hL5 q hq; omega, (HBel.out.trans (hb5.mono hgs)).trans (hb6.mono (by have := hb5.size; omega)), by have := hb5.size; omega, hlt5⟩
      clear HLd hD5 hL5 hb5 HL6 HBel i0 i1 hnd hlt5
      go_wp2_with (go_at_call 40; fail)
      refine HND.out.mono ?_
      rintro e W6 ⟨R, rfl, hR6, hb6, hR7⟩
      have HF6 := (show Hid _ from HFin.out W6 hb6)
      have HR6 := (show Hid _ from hR6)
      have HR7 : Hid (∀ q, R.has q → W5.heap.size ≤ q) := hR7
      clear HND HFin hb6 hR6 hR7
      go_wp2
      go_ret3
      refine ⟨L, R, rfl, HF6.out.1, HR6.out, by rw [hg]; exact HF6.out.2.1, fun q hq => ⟨by have := HR7.out q hq; have := HF6.out.2.2.2.1; omega, fun hq2 => by have := HR7.out q hq; have := HF6.out.2.2.2.2 q hq2; omega⟩, by rw [hg]; exact HF6.out.2.2.1⟩

end Go.Proofs.Ytencclpcebpgmaa
/- What is put is read, and stays off the disk: what holds of a cache and its disk behind any steps, told by books; no condition. -/
namespace Go.Proofs.Ytencclpcebpgmaa
open Go.RowKit Go.Maps

/-- The books agree with the cache and the disk. -/
structure TR (s : CSt) (t : St) (book out : Int → Int) (fast : Int → Bool) (writes : Int) : Prop where
  n : t.n = 16
  run : t.stopped = false ∧ t.fuse = -1
  made : t.made = writes
  ok : COk s
  cur : ∀ k, 0 ≤ k ∧ k < 16 → curV t k = fillF (out k)
  row : ∀ h ∈ s.row, (0 ≤ h.pos ∧ h.pos < 16) ∧ h.dat = fillF (book h.pos) ∧ h.fast = fast h.pos
  held : ∀ k, 0 ≤ k ∧ k < 16 → fast k = true → ∃ h ∈ s.row, h.pos = k
  same : ∀ k, 0 ≤ k ∧ k < 16 → fast k = false → book k = out k
variable {s : CSt} {t : St} {book out : Int → Int} {fast : Int → Bool} {writes : Int} {k : Int}
theorem TR.ref (h : TR s t book out fast writes) (hk : 0 ≤ k ∧ k < 16) : refV t k = 0 := by
  unfold refV
  rw [h.run.1, h.n, if_neg (by simp), if_pos hk]
theorem atR_mem {r : List Hld} {x : Hld} (h : atR r k = some x) : x ∈ r ∧ x.pos = k := ⟨List.mem_of_find?_eq_some h, by have := List.find?_some h; simpa using this⟩
theorem atR_not {r : List Hld} (h : atR r k = none) : ∀ x ∈ r, x.pos ≠ k := fun x hx e => by
  have := List.find?_eq_none.1 h x hx
  exact this (by simp [e])
/-- A refusal comes just where all are held fast, and the block is none of them. -/
theorem TR.full (h : TR s t book out fast writes) (hk : 0 ≤ k ∧ k < 16) : usedE s t k = if (fastN s.row : Int) = s.size ∧ fast k = false then 160 else 0 := by
  unfold usedE
  rw [h.ref hk, if_neg (by simp)]
  have hle := fastN_le s.row
  have hlen := h.ok.len
  by_cases hf : (fastN s.row : Int) = s.size
  · have hall : ∀ x ∈ s.row, x.fast = true := by
      have : s.row.countP (·.fast) = s.row.length := by
        have : fastN s.row = s.row.length := by omega
        exact this
      exact List.countP_eq_length.1 this
    cases ha : atR s.row k with
    | none =>
      have hn : fast k = false := by
        cases hq : fast k
        · rfl
        · obtain ⟨x, hx, e⟩ := h.held k hk hq
          exact absurd e (atR_not ha x hx)
      rw [if_pos ⟨rfl, hf⟩, if_pos ⟨hf, hn⟩]
    | some x =>
      obtain ⟨hx, e⟩ := atR_mem ha
      have h1 := hall x hx
      rw [(h.row x hx).2.2, e] at h1
      rw [if_neg (by simp), if_neg (by simp [h1])]
  · rw [if_neg fun q => hf q.2, if_neg fun q => hf q.1]
theorem TR.reads (h : TR s t book out fast writes) (hk : 0 ≤ k ∧ k < 16) (hu : usedE s t k = 0) : rdB s t k = fillF (book k) := by
  unfold rdB
  rw [if_pos hu]
  cases ha : atR s.row k with
  | some x =>
    obtain ⟨hx, e⟩ := atR_mem ha
    simp only
    rw [(h.row x hx).2.1, e]
  | none =>
    simp only
    have hn : fast k = false := by
      cases hq : fast k
      · rfl
      · obtain ⟨x, hx, e⟩ := h.held k hk hq
        exact absurd e (atR_not ha x hx)
    rw [h.cur k hk, h.same k hk hn]
theorem mem_gone {r : List Hld} {x : Hld} (hx : x ∈ r) (hn : x.pos ≠ k) : x ∈ goneR r k := List.mem_eraseP_of_neg (by simp [hn]) |>.2 hx
theorem fast_gone {r : List Hld} {x : Hld} (h : atR r k = some x) : fastN r = fastN (goneR r k) + (if x.fast then 1 else 0) := by
  induction r with
  | nil => simp [atR] at h
  | cons a l ih =>
    unfold atR at h
    rw [List.find?_cons] at h
    cases hp : a.pos == k with
    | true =>
      rw [hp] at h
      injection h with h
      subst h
      unfold goneR fastN
      rw [List.eraseP_cons_of_pos (by exact hp), List.countP_cons]
    | false =>
      rw [hp] at h
      have := ih h
      unfold goneR fastN at this ⊢
      rw [List.eraseP_cons_of_neg (by simp [hp]), List.countP_cons, List.countP_cons]
      omega
theorem fast_erase : ∀ r : List Hld, fastN (r.eraseP (fun h => !h.fast)) = fastN r
  | [] => rfl
  | a :: l => by
    have ih := fast_erase l
    unfold fastN at ih ⊢
    cases ha : a.fast
    · rw [List.eraseP_cons_of_pos (by simp [ha]), List.countP_cons]
      simp [ha]
    · rw [List.eraseP_cons_of_neg (by simp [ha]), List.countP_cons, List.countP_cons]
      omega
theorem fast_place (n : Int) (r : List Hld) : fastN (placeR n r) = fastN r := by
  unfold placeR
  split
  · rfl
  · exact fast_erase r
theorem place_keeps {n : Int} {r : List Hld} {x : Hld} (hx : x ∈ r) (hf : x.fast = true) : x ∈ placeR n r := by
  unfold placeR
  split
  · exact hx
  · exact (List.mem_eraseP_of_neg (by simp [hf])).2 hx
theorem mem_place {n : Int} {r : List Hld} {x : Hld} (hx : x ∈ placeR n r) : x ∈ r := (placeR_sub n r).subset hx
theorem gone_mem {r : List Hld} {x : Hld} (hx : x ∈ goneR r k) : x ∈ r := List.eraseP_subset hx
/-- A read that is answered. -/
theorem TR.read (h : TR s t book out fast writes) (hk : 0 ≤ k ∧ k < 16) (hu : usedE s t k = 0) (hok : COk (rdC s t k)) : TR (rdC s t k) (rdD s t k) book out fast writes ∧ fastN (rdC s t k).row = fastN s.row ∧ (rdC s t k).size = s.size := by
  have hD : (rdD s t k).n = 16 ∧ ((rdD s t k).stopped = false ∧ (rdD s t k).fuse = -1) ∧ (rdD s t k).made = writes ∧ ∀ j, 0 ≤ j ∧ j < 16 → curV (rdD s t k) j = fillF (out j) := by
    unfold rdD
    rw [if_pos hu]
    cases atR s.row k with
    | some x => exact ⟨h.n, h.run, h.made, h.cur⟩
    | none => exact ⟨h.n, h.run, h.made, h.cur⟩
  have hcd : curV t k = fillF (out k) := h.cur k hk
  unfold rdC at hok ⊢
  rw [if_pos hu] at hok ⊢
  cases ha : atR s.row k with
  | some x =>
    rw [ha] at hok
    simp only at hok ⊢
    obtain ⟨hx, e⟩ := atR_mem ha
    refine ⟨⟨hD.1, hD.2.1, hD.2.2.1, hok, hD.2.2.2, fun y hy => ?_, fun j hj hf => ?_, h.same⟩, ?_, trivial⟩
    · rcases List.mem_append.1 hy with hy | hy
      · exact h.row y (gone_mem hy)
      · obtain rfl : y = x := by simpa using hy
        exact h.row y hx
    · obtain ⟨y, hy, ey⟩ := h.held j hj hf
      by_cases hjk : y.pos = k
      · exact ⟨x, by simp, by rw [e, ← hjk, ey]⟩
      · exact ⟨y, List.mem_append.2 (.inl (mem_gone hy hjk)), ey⟩
    · have := fast_gone ha
      unfold fastN at this ⊢
      rw [List.countP_append, this]
      simp
  | none =>
    rw [ha] at hok
    simp only at hok ⊢
    have hn : fast k = false := by
      cases hq : fast k
      · rfl
      · obtain ⟨x, hx, e⟩ := h.held k hk hq
        exact absurd e (atR_not ha x hx)
    refine ⟨⟨hD.1, hD.2.1, hD.2.2.1, hok, hD.2.2.2, fun y hy => ?_, fun j hj hf => ?_, h.same⟩, ?_, trivial⟩
    · rcases List.mem_append.1 hy with hy | hy
      · exact h.row y (mem_place hy)
      · obtain rfl : y = ⟨k, false, curV t k⟩ := by simpa using hy
        exact ⟨hk, by show curV t k = _; rw [hcd, h.same k hk hn], hn.symm⟩
    · obtain ⟨y, hy, ey⟩ := h.held j hj hf
      have hyf : y.fast = true := by rw [(h.row y hy).2.2, ey]; exact hf
      exact ⟨y, List.mem_append.2 (.inl (place_keeps hy hyf)), ey⟩
    · have := fast_place s.size s.row
      unfold fastN at this ⊢
      rw [List.countP_append, this]
      simp
/-- A put that is answered. -/
theorem TR.put (h : TR s t book out fast writes) (hk : 0 ≤ k ∧ k < 16) (hu : usedE s t k = 0) (x : Int) (hok : COk (putC s t k (fillF x))) :
    TR (putC s t k (fillF x)) t (fun j => if j = k then x else book j) out (fun j => if j = k then true else fast j) writes ∧ (fastN (putC s t k (fillF x)).row : Int) = fastN s.row + (if fast k then 0 else 1) ∧ (putC s t k (fillF x)).size = s.size := by
  unfold putC at hok ⊢
  rw [if_pos hu] at hok ⊢
  have hsame : ∀ j, 0 ≤ j ∧ j < 16 → (if j = k then true else fast j) = false → (if j = k then x else book j) = out j := by
    intro j hj hf
    by_cases e : j = k
    · rw [if_pos e] at hf; cases hf
    · rw [if_neg e] at hf ⊢
      exact h.same j hj hf
  have hnew : ∀ y : Hld, y ∈ s.row → y.pos ≠ k → (0 ≤ y.pos ∧ y.pos < 16) ∧ y.dat = fillF (if y.pos = k then x else book y.pos) ∧ y.fast = (if y.pos = k then true else fast y.pos) := by
    intro y hy hne
    rw [if_neg hne, if_neg hne]
    exact h.row y hy
  unfold useP at hok ⊢
  cases ha : atR s.row k with
  | some z =>
    rw [ha] at hok
    simp only at hok ⊢
    obtain ⟨hz, e⟩ := atR_mem ha
    have hzf : z.fast = fast k := by rw [(h.row z hz).2.2, e]
    have hgn : ∀ y ∈ goneR s.row k, y.pos ≠ k := by
      intro y hy hyk
      have hnd := h.ok.nodup
      obtain ⟨l1, l2, h1, h2⟩ : ∃ l1 l2, s.row = l1 ++ z :: l2 ∧ goneR s.row k = l1 ++ l2 := by
        obtain ⟨a, l1, l2, a1, a2, a3, a4⟩ := List.exists_of_eraseP hz (p := fun h => h.pos == k) (by simp [e])
        have haz : a = z := by
          have hm : a ∈ s.row := by rw [a3]; simp
          exact nodup_map_inj s.row hnd a z hm hz (by have : a.pos = k := by simpa using a2
                                                      rw [this, e])
        subst haz
        exact ⟨l1, l2, a3, a4⟩
      rw [h2] at hy
      rw [h1] at hnd
      have h4 := ((List.perm_middle.map (fun x : Hld => x.pos)).nodup_iff).1 hnd
      rw [List.map_cons, List.nodup_cons] at h4
      exact h4.1 (List.mem_map.2 ⟨y, hy, by rw [hyk, e]⟩)
    refine ⟨⟨h.n, h.run, h.made, hok, h.cur, fun y hy => ?_, fun j hj hf => ?_, hsame⟩, ?_, trivial⟩
    · rcases List.mem_append.1 hy with hy | hy
      · exact hnew y (gone_mem hy) (hgn y hy)
      · obtain rfl : y = ⟨k, true, fillF x⟩ := by simpa using hy
        exact ⟨hk, by simp, by simp⟩
    · by_cases ej : j = k
      · exact ⟨⟨k, true, fillF x⟩, by simp, ej.symm⟩
      · rw [if_neg ej] at hf
        obtain ⟨y, hy, ey⟩ := h.held j hj hf
        exact ⟨y, List.mem_append.2 (.inl (mem_gone hy (by rw [ey]; exact ej))), ey⟩
    · have := fast_gone ha
      rw [hzf] at this
      unfold fastN at this ⊢
      rw [List.countP_append, this]
      cases fast k <;> simp
  | none =>
    rw [ha] at hok
    simp only at hok ⊢
    have hno := atR_not ha
    have hn : fast k = false := by
      cases hq : fast k
      · rfl
      · obtain ⟨z, hz, e⟩ := h.held k hk hq
        exact absurd e (hno z hz)
    refine ⟨⟨h.n, h.run, h.made, hok, h.cur, fun y hy => ?_, fun j hj hf => ?_, hsame⟩, ?_, trivial⟩
    · rcases List.mem_append.1 hy with hy | hy
      · exact hnew y (mem_place hy) (hno y (mem_place hy))
      · obtain rfl : y = ⟨k, true, fillF x⟩ := by simpa using hy
        exact ⟨hk, by simp, by simp⟩
    · by_cases ej : j = k
      · exact ⟨⟨k, true, fillF x⟩, by simp, ej.symm⟩
      · rw [if_neg ej] at hf
        obtain ⟨y, hy, ey⟩ := h.held j hj hf
        have hyf : y.fast = true := by rw [(h.row y hy).2.2, ey]; exact hf
        exact ⟨y, List.mem_append.2 (.inl (place_keeps hy hyf)), ey⟩
    · have := fast_place s.size s.row
      unfold fastN at this ⊢
      rw [List.countP_append, this, hn]
      simp
theorem lastAt_put (l : List Cel) (j : Int) (f : Nat → Int) : lastAt (l ++ [(k, f)]) j = if k = j then some l.length else lastAt l j := lastAt_snoc (k, f) j l
theorem cur_write (hr : t.stopped = false ∧ t.fuse = -1) (hk : refV t k = 0) (f : Nat → Int) (j : Int) : curV (writeV t k f) j = if k = j then f else curV t j := by
  have hl : lets t = true := by unfold lets; rw [hr.2]; rfl
  unfold writeV
  rw [if_pos hk, hl, if_pos rfl]
  have hw : (writeS t k f).wait = t.wait ++ [(k, f)] := rfl
  have hh : (writeS t k f).held = t.held := letV_held t
  by_cases e : k = j
  · rw [if_pos e, curV_wait (i := t.wait.length) (c := (k, f)) (by rw [hw, lastAt_put, if_pos e]) (by rw [hw]; simp)]
  · rw [if_neg e]
    have hla : lastAt (writeS t k f).wait j = lastAt t.wait j := by rw [hw, lastAt_put, if_neg e]
    cases hq : lastAt t.wait j with
    | some i =>
      obtain ⟨c, hc, _⟩ := lastAt_spec j _ i hq
      have hi := (List.getElem?_eq_some_iff.1 hc).1
      rw [curV_wait (hla.trans hq) (c := c) (by rw [hw, List.getElem?_append_left hi]; exact hc), curV_wait hq hc]
    | none => rw [curV_held (hla.trans hq), curV_held hq, hh]
theorem fast_unfast {r : List Hld} {z : Hld} (hnd : (r.map (·.pos)).Nodup) (hz : z ∈ r) (e : z.pos = k) (hf : z.fast = true) : (fastN (unfast r k) : Int) = fastN r - 1 := by
  induction r with
  | nil => simp at hz
  | cons a l ih =>
    rw [List.map_cons, List.nodup_cons] at hnd
    unfold unfast fastN
    rw [List.map_cons, List.countP_cons, List.countP_cons]
    by_cases ha : a.pos = k
    · have hza : z = a := by
        rcases List.mem_cons.1 hz with h | h
        · exact h
        · exact absurd (List.mem_map.2 ⟨z, h, by rw [e, ha]⟩) hnd.1
      subst hza
      have hl : l.map (fun x : Hld => if x.pos = k then (⟨x.pos, false, x.dat⟩ : Hld) else x) = l := by
        have : ∀ x ∈ l, (if x.pos = k then (⟨x.pos, false, x.dat⟩ : Hld) else x) = x := fun x hx => by
          rw [if_neg fun q => hnd.1 (List.mem_map.2 ⟨x, hx, by rw [q, ha]⟩)]
        rw [List.map_congr_left this]
        exact List.map_id' _
      rw [hl, if_pos ha, hf]
      simp
    · have hz' : z ∈ l := by
        rcases List.mem_cons.1 hz with h | h
        · exact absurd (h ▸ e) ha
        · exact h
      have := ih hnd.2 hz'
      unfold unfast fastN at this
      rw [if_neg ha]
      omega
/-- A flush. -/
theorem TR.flush (h : TR s t book out fast writes) (hk : 0 ≤ k ∧ k < 16) (hok : COk (flushC s t k)) :
    flushE s t k = 0 ∧ TR (flushC s t k) (flushD s t k) book (fun j => if j = k ∧ fast k = true then book k else out j) (fun j => if j = k then false else fast j) (writes + if fast k then 1 else 0) ∧
      (fastN (flushC s t k).row : Int) = fastN s.row - (if fast k then 1 else 0) ∧ (flushC s t k).size = s.size := by
  have hr := h.ref hk
  have hl : lets t = true := by unfold lets; rw [h.run.2]; rfl
  have hwE : writeE t k = 0 := by unfold writeE; rw [if_pos hr, hl, if_pos rfl]
  unfold flushE flushC flushD at *
  rw [if_pos hr] at hok ⊢
  rw [if_pos hr, if_pos hr]
  cases ha : atR s.row k with
  | none =>
    have hno := atR_not ha
    have hn : fast k = false := by
      cases hq : fast k
      · rfl
      · obtain ⟨z, hz, e⟩ := h.held k hk hq
        exact absurd e (hno z hz)
    simp only [hn]
    refine ⟨trivial, ⟨h.n, h.run, by simpa using h.made, h.ok, fun j hj => by simpa using h.cur j hj, fun y hy => ?_, fun j hj hf => ?_, fun j hj hf => ?_⟩, by simp, trivial⟩
    · obtain ⟨a1, a2, a3⟩ := h.row y hy
      exact ⟨a1, a2, by rw [if_neg (hno y hy)]; exact a3⟩
    · by_cases e : j = k
      · rw [if_pos e] at hf; cases hf
      · rw [if_neg e] at hf; exact h.held j hj hf
    · by_cases e : j = k
      · subst e; simpa using h.same j hj hn
      · rw [if_neg e] at hf; simpa using h.same j hj hf
  | some z =>
    obtain ⟨hz, e⟩ := atR_mem ha
    obtain ⟨z1, z2, z3⟩ := h.row z hz
    rw [e] at z2 z3
    rw [ha] at hok
    cases hf : fast k with
    | false =>
      rw [hf] at z3
      simp only [z3] at hok ⊢
      refine ⟨by simp, ⟨by simpa using h.n, by simpa using h.run, by simpa using h.made, by simpa using h.ok, fun j hj => by simpa using h.cur j hj, fun y hy => ?_, fun j hj hg => ?_, fun j hj hg => ?_⟩, by simp, by simp⟩
      · have hy' : y ∈ s.row := by simpa using hy
        obtain ⟨a1, a2, a3⟩ := h.row y hy'
        refine ⟨a1, a2, ?_⟩
        by_cases ey : y.pos = k
        · rw [if_pos ey, a3, ey, hf]
        · rw [if_neg ey]; exact a3
      · by_cases ej : j = k
        · rw [if_pos ej] at hg; cases hg
        · rw [if_neg ej] at hg; simpa using h.held j hj hg
      · by_cases ej : j = k
        · subst ej; simpa using h.same j hj hf
        · rw [if_neg ej] at hg; simpa using h.same j hj hg
    | true =>
      rw [hf] at z3
      simp only [z3, hwE, and_self, if_true] at hok ⊢
      have hcw := cur_write h.run hr z.dat
      have hwn : (writeV t k z.dat).n = 16 ∧ ((writeV t k z.dat).stopped = false ∧ (writeV t k z.dat).fuse = -1) ∧ (writeV t k z.dat).made = writes + 1 := by
        unfold writeV
        rw [if_pos hr, hl, if_pos rfl]
        have e1 : letV t = { t with fuse := -1, made := t.made + 1 } := by
          unfold letV
          rw [h.run.2, if_neg (by omega), if_pos rfl]
        unfold writeS
        rw [e1]
        exact ⟨h.n, ⟨h.run.1, rfl⟩, by show t.made + 1 = _; rw [h.made]⟩
      refine ⟨trivial, ⟨hwn.1, hwn.2.1, hwn.2.2, hok, fun j hj => ?_, fun y hy => ?_, fun j hj hg => ?_, fun j hj hg => ?_⟩, fast_unfast h.ok.nodup hz e z3, trivial⟩
      · rw [hcw j]
        by_cases ej : k = j
        · subst ej
          rw [if_pos rfl, z2]
          simp
        · rw [if_neg ej, h.cur j hj]
          have : ¬ j = k := fun q => ej q.symm
          simp [this]
      · obtain ⟨y', hy', rfl⟩ := List.mem_map.1 hy
        obtain ⟨a1, a2, a3⟩ := h.row y' hy'
        by_cases ey : y'.pos = k
        · rw [if_pos ey]
          exact ⟨a1, a2, by show false = _; rw [if_pos ey]⟩
        · rw [if_neg ey]
          exact ⟨a1, a2, by rw [if_neg ey]; exact a3⟩
      · by_cases ej : j = k
        · rw [if_pos ej] at hg; cases hg
        · rw [if_neg ej] at hg
          obtain ⟨y, hy, ey⟩ := h.held j hj hg
          refine ⟨y, List.mem_map.2 ⟨y, hy, ?_⟩, ey⟩
          rw [if_neg (by rw [ey]; exact ej)]
      · by_cases ej : j = k
        · subst ej; simp
        · rw [if_neg ej] at hg
          simpa [ej] using h.same j hj hg
end Go.Proofs.Ytencclpcebpgmaa
/- The books at the start: a disk filled by numbers, a cache that holds nothing; no condition. -/
namespace Go.Proofs.Ytencclpcebpgmaa
open Go.RowKit Go.Maps

theorem holdV_get (s : St) (k : Int) {f : Nat → Int} (hf : Can f) (j : Int) : ((holdV s k f).held j).getD nought = if j = k then f else (s.held j).getD nought := by
  show (if j = k then (if blankB f then none else some f) else s.held j).getD nought = _
  by_cases e : j = k
  · rw [if_pos e, if_pos e]
    cases hb : blankB f
    · rfl
    · rw [hf.blank.1 hb]; rfl
  · rw [if_neg e, if_neg e]
/-- What an image of numbers loads as. -/
theorem img_held (xs : Nat → Int) (hx : ∀ i, 0 ≤ xs i ∧ xs i < 65536) (s : St) (hs : ∀ j, s.held j = none) (j : Int) : ∀ n : Nat, ((holdAll s (imgL xs n)).held j).getD nought = if 0 ≤ j ∧ j < n then fillF (xs j.toNat) else nought
  | 0 => by
    show (s.held j).getD nought = _
    rw [hs j, if_neg (by omega)]
    rfl
  | n + 1 => by
    have ih := img_held xs hx s hs j n
    unfold imgL
    have hc := fill_can (xs n) (hx n)
    cases hb : sameB (fillF (xs n)) nought with
    | true =>
      rw [if_pos rfl, ih]
      by_cases e : j = n
      · subst e
        rw [if_neg (by omega), if_pos (by omega), Int.toNat_natCast]
        exact (hc.blank.1 hb).symm
      · by_cases h : 0 ≤ j ∧ j < n
        · rw [if_pos h, if_pos (by omega)]
        · rw [if_neg h, if_neg (by omega)]
    | false =>
      rw [if_neg (by simp), holdAll_snoc, holdV_get _ _ hc, ih]
      by_cases e : j = n
      · rw [if_pos e, if_pos (by omega), e, Int.toNat_natCast]
      · rw [if_neg e]
        by_cases h : 0 ≤ j ∧ j < n
        · rw [if_pos h, if_pos (by omega)]
        · rw [if_neg h, if_neg (by omega)]
theorem TR.start (xs : Nat → Int) (hx : ∀ i, 0 ≤ xs i ∧ xs i < 65536) {size : Int} (hs : 1 ≤ size ∧ size ≤ 4096) : TR (newC size) (loadV 16 (imgL xs 16)) (fun k => xs k.toNat) (fun k => xs k.toNat) (fun _ => false) 0 := by
  obtain ⟨h, e⟩ := holdAll_same (imgL xs 16) (newV 16)
  have hL : loadV 16 (imgL xs 16) = { newV 16 with held := h } := e
  refine ⟨by rw [hL]; rfl, by rw [hL]; exact ⟨rfl, rfl⟩, by rw [hL]; rfl, ⟨hs, by simp [newC]; omega, by simp [newC], by simp [newC]⟩, fun k hk => ?_, by simp [newC], (fun k _ hf => by cases hf), fun _ _ _ => rfl⟩
  have hw : (loadV 16 (imgL xs 16)).wait = [] := by rw [hL]; rfl
  rw [curV_held (by rw [hw]; rfl)]
  unfold loadV
  rw [img_held xs hx (newV 16) (fun _ => rfl) k 16, if_pos (by omega)]
end Go.Proofs.Ytencclpcebpgmaa
/- Both sides as they are made, and a step of the law with the first cache; no condition but the counts' bounds. -/
namespace Go.Proofs.Ytencclpcebpgmaa
open Go.RowKit Go.Maps
theorem mate_fresh (xs : Nat → Int) (hx : ∀ i, 0 ≤ xs i ∧ xs i < 65536) (n : Nat) : Mate (loadV (n : Int) (imgL xs n)) n ⟨mks (fun j => fillF (xs j)) n, mks (fun j => fillF (xs j)) n, -1, false, 0, 0⟩ := by
  obtain ⟨hh, he⟩ := holdAll_same (imgL xs n) (newV (n : Int))
  have hl : loadV (n : Int) (imgL xs n) = { newV (n : Int) with held := hh } := he
  have hheld : ∀ m : Nat, m < n → ((loadV (n : Int) (imgL xs n)).held m).getD nought = fillF (xs m) := fun m hm => by
    have := img_held xs hx (newV (n : Int)) (fun _ => rfl) m n
    unfold loadV
    rw [this, if_pos (by omega)]
    simp
  have hget : ∀ m : Nat, m < n → (mks (fun j => fillF (xs j)) n).getD m nought = fillF (xs m) := fun m hm => by
    rw [List.getD_eq_getElem?_getD, mks_get _ _ _ hm]
    rfl
  refine ⟨by rw [hl]; rfl, by rw [hl]; rfl, by rw [hl]; rfl, by rw [hl]; rfl, by rw [hl]; rfl, mks_len _ _, mks_len _ _, fun m hm => ?_, fun m hm => ?_⟩
  · have hc : curV (loadV (n : Int) (imgL xs n)) m = ((loadV (n : Int) (imgL xs n)).held m).getD nought := by
      have hw : (loadV (n : Int) (imgL xs n)).wait = [] := by rw [hl]; rfl
      unfold curV
      rw [hw]
      rfl
    rw [hc, hheld m hm]
    unfold nowR
    simp only [Int.toNat_natCast]
    exact hget m hm
  · rw [hheld m hm]
    exact hget m hm
theorem cn_fresh (xs : Nat → Int) (n : Nat) : Cn (loadV (n : Int) (imgL xs n)) 0 := by
  obtain ⟨hh, he⟩ := holdAll_same (imgL xs n) (newV (n : Int))
  have hl : loadV (n : Int) (imgL xs n) = { newV (n : Int) with held := hh } := he
  rw [hl]
  exact ⟨by simp [St.ops, newV], Int.le_refl _, Int.le_refl _, rfl⟩
set_option maxRecDepth 20000 in
set_option maxHeartbeats 2000000 in
theorem step_ok {w W : World} {gx d dr c g n : Nat} {c1 w1 : Value} {s : CSt} {t : St} {u : RD} {i : Nat} {l : List Part} (h : AskS w W gx d dr c g n c1 w1 s t u i l) (hi : i < 1000000) (o A F : Int) (ho : o < 5) (hF : 0 ≤ F ∧ F < 65536) :
    Calls Try.prog 13 #[.pointer (some ⟨gx, 0, none⟩), .agg #[.int .u8 o, .bool false, .int .i64 A, .int .u16 F]] W fun e W' => e = .returned (.bool true) ∧ ∃ s' t' u', AskS w W' gx d dr c g n c1 w1 s' t' u' (i + 1) l := by
  obtain ⟨K, L, R, v, vl, vk, T1, T2, rfl, rfl, rfl, hM, hC, hT, h0⟩ := h
  have y0 := Sep.later h0 (below_new W (.cells #[.int .u8 o, .bool false, .int .i64 A, .int .u16 F] 46))
  have hr : (W.alloc (.cells #[.int .u8 o, .bool false, .int .i64 A, .int .u16 F] 46)).heap[W.heap.size]? = some (.cells #[.int .u8 o, .bool false, .int .i64 A, .int .u16 F] 46) := heap_alloc_new _ _
  have HA : Hid (AskS w (W.alloc (.cells #[.int .u8 o, .bool false, .int .i64 A, .int .u16 F] 46)) gx L.d R.g K.c g n c1 w1 s t u i l) := ⟨K, L, R, v, vl, vk, T1, T2, rfl, rfl, rfl, hM, hC, hT, y0⟩
  have hx := y0.say (bxP gx (xRow L.d R.g K.c g c1 w1 vl vk) 36) (by simp)
  have x2 : (W.alloc (.cells #[.int .u8 o, .bool false, .int .i64 A, .int .u16 F] 46)).cell? ⟨gx, 2, none⟩ = some (.pointer (some ⟨K.c, 0, none⟩)) := Joins.cell_of_block hx 2
  have e0 : (W.alloc (.cells #[.int .u8 o, .bool false, .int .i64 A, .int .u16 F] 46)).cell? ⟨W.heap.size, 0, none⟩ = some (.int .u8 o) := Joins.cell_of_block hr 0
  have e1 : (W.alloc (.cells #[.int .u8 o, .bool false, .int .i64 A, .int .u16 F] 46)).cell? ⟨W.heap.size, 1, none⟩ = some (.bool false) := Joins.cell_of_block hr 1
  have e2 : (W.alloc (.cells #[.int .u8 o, .bool false, .int .i64 A, .int .u16 F] 46)).cell? ⟨W.heap.size, 2, none⟩ = some (.int .i64 A) := Joins.cell_of_block hr 2
  have e3 : (W.alloc (.cells #[.int .u8 o, .bool false, .int .i64 A, .int .u16 F] 46)).cell? ⟨W.heap.size, 3, none⟩ = some (.int .u16 F) := Joins.cell_of_block hr 3
  have n5 : (o == 5) = false := by simp; omega
  have n6 : (o == 6) = false := by simp; omega
  have n7 : (o == 7) = false := by simp; omega
  have n8 : (o == 8) = false := by simp; omega
  clear h0 y0 hr hx hM hC hT ho
  go_enter Try.func13, Try.ntmps13
  go_upto_region 1 with fail
  generalize W.alloc (.cells #[.int .u8 o, .bool false, .int .i64 A, .int .u16 F] 46) = X at *
  generalize W.heap.size = B at *
  go_wp2_with (first | (go_at_call 14; fail))
  refine (ask_ok HA.out hi (.bool false) o A F hF).mono ?_
  rintro e Y ⟨rfl, s', t', u', h'⟩
  have HF' := (show Hid _ from h')
  clear h' HA
  go_wp2
  go_ret
  exact ⟨rfl, s', t', u', HF'.out⟩
end Go.Proofs.Ytencclpcebpgmaa
