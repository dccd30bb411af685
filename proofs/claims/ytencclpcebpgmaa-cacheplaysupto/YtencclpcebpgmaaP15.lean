/- Several texts joined, each with its own remark; no condition. -/
import Derived.Test.YtencclpcebpgmaaP14
import Derived.Deep.Cut
import Derived.Test.YtencclpcebpgmaaP12
/- The disk that a law fills by numbers; no condition. -/
namespace Go.Proofs.Ytencclpcebpgmaa
open Go.RowKit Go.Maps

/-- Numbers of 16 bits that lie in memory. -/
def U16At (w : World) (p : Option Addr) (n : Nat) (f : Nat → Int) : Prop := ∀ i, i < n → ∃ b off, p = some ⟨b, off, none⟩ ∧ b < w.heap.size ∧ w.cell? ⟨b, off + i, none⟩ = some (.int .u16 (f i)) ∧ 0 ≤ f i ∧ f i < 65536
theorem wpList_neqB {ops : Array Oper} {rest : List Oper} {o : Oper} {a : Act} {w : World} {Q : Exit → Act → World → Prop} (hw : Region.wanted o (yielded ops a.tmps) = true) (x y : Operand) (ho : o.op = .binOp .neq 59 x y 59) (f g : Nat → Int) (b : Bool) (hx : a.eval x = .agg (blk f)) (hy : a.eval y = .agg (blk g)) (hb : sameB f g = b)
    (h : wpList Try.prog ops Q rest (a.put o.dst (.bool (!b))) w) : wpList Try.prog ops Q (o :: rest) a w :=
  BigFrame.wpList_want hw fun _ hK => by
    have e := neq58 f g b hb w
    unfold Oper.wp execOp
    simp only [ho, hx, hy, Sem.run_bind, neqg58, e, Result.andThen_ok, Sem.run_pure]
    exact hK _ _ h
theorem ImgAt.of {w : World} {B : Nat} {v : Value} {l : List Cel} (h : w.ownsRow B 94 1025 v l.length (celCells l)) : ∃ p c, v = .slice p l.length c ∧ ImgAt w p l := by
  have h' := h
  rcases h.2 with ⟨h1, h2⟩ | ⟨g, cap, cur, h1, hg, hh, hc, _⟩
  · exact ⟨none, 0, by rw [h1, h2], fun q => by omega⟩
  · subst h1
    exact ⟨some ⟨g, 0, none⟩, cap, rfl, fun _ => ⟨g, 0, rfl, (h'.lt g rfl).2, fun k c hk => by
      obtain ⟨a1, a2⟩ := cel_at h' (k := k) rfl hk
      rw [Nat.zero_add]
      exact ⟨a1, a2⟩⟩⟩
set_option maxRecDepth 20000 in
set_option maxHeartbeats 4000000 in
theorem disks_any {W : World} (pa : Option Addr) (n cap : Nat) (xs : Nat → Int) (hn : 1 ≤ n ∧ n ≤ 64) (hx : U16At W pa n xs) :
    Calls Try.prog 10 #[.slice pa n cap] W fun e W' => ∃ (L : Loc) (rp : Option Addr), e = .returned (.tuple #[ptr L.d, .pointer rp, .bool true]) ∧ DiskAt W' L (loadV (n : Int) (imgL xs n)) ∧ L.from W.heap.size ∧ Below W.heap.size W W' := by
  have HX : Hid (U16At W pa n xs) := hx
  have z25 := zero25
  have hbd := built58
  have hR := heap_alloc_new W (.cells #[.int .i64 (n : Int), .slice none 0 0] 92)
  have hB1 := below_new W (.cells #[.int .i64 (n : Int), .slice none 0 0] 92)
  have HDI : Hid (DI W (W.alloc (.cells #[.int .i64 (n : Int), .slice none 0 0] 92)) W.heap.size n (.slice none 0 0) (.slice none 0 0) (imgL xs 0) 0) :=
    ⟨hR, World.ownsRow_nil _ _ 94 1025, ⟨[], World.ownsRow_nil _ _ 59 1024⟩, (fun a ha => by cases ha), hB1⟩
  clear hx hR hB1
  go_enter Try.func10, Try.ntmps10
  go_wp2
  generalize hg : W.heap.size = g at *
  go_loopw [6, 7] (fun s6 s7 wx => ∃ (k : Nat) (v5 : Value), k ≤ n ∧ s7 = .int .i64 k ∧ Hid (DI W wx g n v5 s6 (imgL xs k) k)) (fun _ s7 _ => n - (intOf s7).toNat)
  case atStart => exact ⟨0, _, by omega, rfl, HDI.out⟩
  case round =>
    obtain ⟨k, v5, hk, rfl, HD⟩ := hrel
    clear HDI
    by_cases hkn : (k : Int) < n
    · obtain ⟨b, off, rfl, hbl, hcell, hy1, hy2⟩ := HX.out k (by omega)
      have hcw : wr.cell? ⟨b, off + k, none⟩ = some (.int .u16 (xs k)) := (HD.out.bel.cell (p := ⟨b, off + k, none⟩) (by rw [← hg]; exact hbl)).trans hcell
      have HF : Hid (Calls Try.prog 35 _ wr _) := fill_any (xs k) ⟨hy1, hy2⟩ wr
      have hIm : imgL xs (k + 1) = if sameB (fillF (xs k)) nought then imgL xs k else imgL xs k ++ [((k : Int), fillF (xs k))] := rfl
      have HIm : Hid (imgL xs (k + 1) = if sameB (fillF (xs k)) nought then imgL xs k else imgL xs k ++ [((k : Int), fillF (xs k))]) := hIm
      have hll := imgL_len xs k
      clear hcell hIm
      generalize fillF (xs k) = f at *
      generalize xs k = y at *
      generalize imgL xs k = l at *
      go_wp2_with (go_at_call 35; fail)
      refine HF.out.mono ?_
      rintro e W1 ⟨rfl, hb1⟩
      have h1 := (HD.out.later hb1).later (below_new W1 (.cells (blk f) 59))
      have hR8 := heap_alloc_new W1 (.cells (blk f) 59)
      have H1 : Hid (DI W (W1.alloc (.cells (blk f) 59)) g n v5 u6 l k) := h1
      have hsz1 := hb1.size
      obtain ⟨cs6, hbl6⟩ := HD.out.bl
      have hne6 : ∀ a, u6.ownBlock = some a → a < W1.heap.size := fun a ha => by have := (hbl6.lt a ha).2; omega
      have hne5 : ∀ a, v5.ownBlock = some a → a < W1.heap.size := fun a ha => by have := (HD.out.im.lt a ha).2; omega
      clear HD HF hb1 h1 hcw hbl6 hsz1
      go_upto_region 7 with (refine wpList_store58_new rfl (.tmp 8) (.tmp 24) rfl f _ _ rfl rfl rfl ?_)
      have hbl2 := H1.out.bl
      have hB2 : g + 1 ≤ (W1.alloc (.cells (blk f) 59)).heap.size := H1.out.lt
      have hg8lt : W1.heap.size < (W1.alloc (.cells (blk f) 59)).heap.size := by simp
      generalize hg8 : W1.heap.size = g8 at *
      generalize hW2 : W1.alloc (.cells (blk f) 59) = W2 at *
      have hk64 : k < 1000 := by omega
      have HR8 : Hid (∀ W3, (W2.alloc (.cells (blk f) 59)).grownBy W3 u6.ownBlock → W3.heap[g8]? = some (.cells (blk f) 59)) := fun W3 p2 => by
        rw [p2.block g8 (by simp; omega) (fun q => by have := hne6 g8 q.symm; omega), heap_alloc_old W2 _ hg8lt]
        exact hR8
      cases hb : sameB f nought
      · have HI2 : Hid (imgL xs (k + 1) = l ++ [((k : Int), f)]) := by
          have := HIm.out
          rw [hb, if_neg (by simp)] at this
          exact this
        have hl1000 : l.length < 1000 := by omega
        clear HIm
        generalize nought = N at *
        go_wp2_with (first | (refine wpList_load25 rfl (.tmp 8) rfl g8 rfl f hR8 ?_) | (refine wpList_build1 rfl 49 59 (.tmp 26) rfl _ rfl (build49 f _) ?_) | (at_builtin; refine wpList_pushB rfl (.tmp 25) (.tmp 27) rfl (g + 1) u6 k f rfl rfl hbl2 hB2 hk64 ?_; intro v6 W3 p1 p2 p3 p4; have H3 : Hid (DI W W3 g n v5 v6 l (k + 1)) := H1.out.block p1 p2 p3 p4; have hR83 := HR8.out W3 p2; have c51 := Joins.cell_of_block H3.out.row 1; have hown5 := H3.out.im; have hB3 : g + 1 ≤ W3.heap.size := H3.out.lt; clear p1 p2 p3 p4 hbl2 hR8 H1 HR8) | (refine wpList_load25 rfl (.tmp 8) rfl g8 rfl f hR83 ?_) | (refine wpList_build58 rfl rfl hbd ?_) | (refine wpList_neqB rfl (.tmp 29) (.tmp 30) rfl f N false rfl rfl hb ?_) | (refine wpList_build85 rfl (.tmp 34) (.tmp 35) rfl k f rfl rfl ?_) | (refine wpList_build1 rfl 90 94 (.tmp 36) rfl _ rfl (build30 ((k : Int), f) _) ?_) | (at_builtin; refine wpList_pushC rfl (.tmp 33) (.tmp 37) rfl (g + 1) v5 l ((k : Int), f) rfl rfl hown5 hB3 hl1000 ?_; intro v5' W4 q1 q2 q3 q4; obtain ⟨g', cap', rfl⟩ := slice_ofC q1 (by simp); obtain ⟨r1, r2, r3⟩ := H3.out.cel q1 q2 q3 q4; rw [List.length_append, show [((k : Int), f)].length = 1 from rfl] at r1; have H4 : Hid (DI W (W4.setCell ⟨g, 1, none⟩ _) g n _ v6 (l ++ [((k : Int), f)]) (k + 1)) := r1; clear q1 q2 q3 q4 r1 hown5 H3 c51))
        refine ⟨⟨k + 1, _, by omega, by go_num, (by show DI _ _ _ _ _ _ _ _; rw [HI2.out]; exact H4.out)⟩, by simp [intOf]; omega⟩
      · have HI2 : Hid (imgL xs (k + 1) = l) := by
          have := HIm.out
          rw [hb, if_pos rfl] at this
          exact this
        clear HIm
        generalize nought = N at *
        go_wp2_with (first | (refine wpList_load25 rfl (.tmp 8) rfl g8 rfl f hR8 ?_) | (refine wpList_build1 rfl 49 59 (.tmp 26) rfl _ rfl (build49 f _) ?_) | (at_builtin; refine wpList_pushB rfl (.tmp 25) (.tmp 27) rfl (g + 1) u6 k f rfl rfl hbl2 hB2 hk64 ?_; intro v6 W3 p1 p2 p3 p4; have H3 : Hid (DI W W3 g n v5 v6 l (k + 1)) := H1.out.block p1 p2 p3 p4; have hR83 := HR8.out W3 p2; clear p1 p2 p3 p4 hbl2 hR8 H1 HR8) | (refine wpList_load25 rfl (.tmp 8) rfl g8 rfl f hR83 ?_) | (refine wpList_build58 rfl rfl hbd ?_) | (refine wpList_neqB rfl (.tmp 29) (.tmp 30) rfl f N true rfl rfl hb ?_))
        refine ⟨⟨k + 1, v5, by omega, by go_num, ?_⟩, by simp [intOf]; omega⟩
        show DI _ _ _ _ _ _ _ _
        rw [HI2.out]
        exact H3.out
    · obtain rfl : k = n := by omega
      have hmay := imgL_may xs hn
      have hll := imgL_len xs k
      obtain ⟨p5, c5, rfl, hI5⟩ := ImgAt.of HD.out.im
      have hcan : ∀ c ∈ imgL xs k, Can c.2 := fun c hc => by
        obtain ⟨h1, h2, _⟩ := imgL_mem xs k c hc
        rw [h2]
        obtain ⟨_, _, _, _, _, y1, y2⟩ := HX.out c.1.toNat (by omega)
        exact fill_can _ ⟨y1, y2⟩
      have HLd : Hid (Calls Try.prog 39 #[.agg #[.int .i64 (k : Int), .slice p5 (imgL xs k).length c5]] wr _) := load_ok (k : Int) (imgL xs k) p5 c5 wr (by omega) hI5 hcan hmay
      have hrow := HD.out.row
      have i0 : wr.cell? ⟨g, 0, none⟩ = some (.int .i64 (k : Int)) := Joins.cell_of_block hrow 0
      have i1 : wr.cell? ⟨g, 1, none⟩ = some (.slice p5 (imgL xs k).length c5) := Joins.cell_of_block hrow 1
      have HBl : Hid (Blocks wr (g + 1) u6 k) := HD.out.bl
      have HBel : Hid (Below g W wr) := HD.out.bel
      have hgs : g ≤ wr.heap.size := Nat.le_of_lt HD.out.lt
      clear HD hI5 hcan hrow HX hmay hll
      generalize hl : (imgL xs k).length = m at *
      go_wp2_with (go_at_call 39; fail)
      refine HLd.out.mono ?_
      rintro e W5 ⟨L, rfl, hD5, hL5, hb5⟩
      have HND : Hid (Calls Try.prog 40 #[u6] W5 _) := newDisk_any (HBl.out.later hb5) (by omega)
      have HFin : Hid (∀ W6, Below W5.heap.size W5 W6 → DiskAt W6 L (loadV (k : Int) (imgL xs k)) ∧ L.from g ∧ Below g W W6) := fun W6 hb6 =>
        ⟨hD5.later hb6, fun q hq => by have := hL5 q hq; omega, (HBel.out.trans (hb5.mono hgs)).trans (hb6.mono (by have := hb5.size; omega))⟩
      clear HLd hD5 hL5 hb5 HBl HBel i0 i1
      go_wp2_with (go_at_call 40; fail)
      refine HND.out.mono ?_
      rintro e W6 ⟨rp, rfl, hb6⟩
      have HF6 : Hid _ := HFin.out W6 hb6
      clear HND HFin hb6
      go_wp2
      go_ret3
      exact ⟨L, rp, rfl, by rw [hg]; exact HF6.out⟩
end Go.Proofs.Ytencclpcebpgmaa
/- The document's cache: New; no condition. -/
namespace Go.Proofs.Ytencclpcebpgmaa
open Go.RowKit Go.Maps
variable {w w' : World} {d : Nat}
theorem new6_bad (m : Int) (hm : ¬ (1 ≤ m ∧ m ≤ 4096)) (p : Value) : Calls Try.prog 12 #[p, .int .i64 m] w fun e w' => e = .returned (.tuple #[.pointer none, .int .i64 2]) ∧ w' = w := by
  by_cases h1 : m < 1
  · clear hm
    go_enter Try.func12, Try.ntmps12
    go_wp2
    go_ret2
    exact ⟨rfl, rfl⟩
  · have h2 : 4096 < m := by omega
    clear hm
    go_enter Try.func12, Try.ntmps12
    go_wp2
    go_ret2
    exact ⟨rfl, rfl⟩
theorem new6_ok (m : Int) (hm : 1 ≤ m ∧ m ≤ 4096) : Calls Try.prog 12 #[.pointer (some ⟨d, 0, none⟩), .int .i64 m] w fun e w' => e = .returned (.tuple #[ptr w.heap.size, .int .i64 0]) ∧ RCk w' w.heap.size d (.slice none 0 0) ⟨m, []⟩ ∧ Below w.heap.size w w' := by
  have h1 : ¬ (m < 1) := by omega
  have h2 : ¬ (4096 < m) := by omega
  have HC : Hid (RCk (w.alloc (.cells #[ptr d, .int .i64 m, .slice none 0 0] 101)) w.heap.size d (.slice none 0 0) ⟨m, []⟩) := ⟨heap_alloc_new _ _, World.ownsRow_nil _ _ _ _⟩
  have HB := hidd (below_new w (.cells #[ptr d, .int .i64 m, .slice none 0 0] 101))
  clear hm
  unfold ptr at HC HB ⊢
  go_enter Try.func12, Try.ntmps12
  go_wp2
  go_ret2
  exact ⟨rfl, HC.out, HB.out⟩
end Go.Proofs.Ytencclpcebpgmaa
/- The document's disk of the cache's chapter: NewDisk, with what it holds; lists up to a million. -/
namespace Go.Proofs.Ytencclpcebpgmaa
open Go.RowKit Go.Maps
theorem blk_mid {W : World} {p : Option Addr} {c : Nat} {l : List (Nat → Int)} (hl : LiesE enK 1024 W p l) (h0 : 0 < l.length) (hn : l.length ≤ 1000000) :
    ∃ b c', ∃ w', (Builtin.append_ #[49, 49] 49 #[.slice none 0 0, .slice p l.length c]).run Try.prog W = .ok (.slice (some ⟨b, 0, none⟩) l.length c') w' ∧ w'.ownsRow W.heap.size 59 1024 (.slice (some ⟨b, 0, none⟩) l.length c') l.length (l.flatMap enK) ∧ Below W.heap.size W w' := by
  obtain ⟨i0, hi0, hz0, hz1, hz2⟩ := info_parts info59b
  obtain ⟨v, w', hr, ho, hb⟩ := append_copy lenK oneK Try.underlying49 hi0 hz0 hz1 hz2 (blk_size _) (by omega) (by omega) (c := c) hl hn 49
  rcases own_form ho with ⟨_, q⟩ | ⟨b, c', rfl, _⟩
  · omega
  · exact ⟨b, c', w', hr, ho, hb⟩
set_option maxRecDepth 20000 in
set_option maxHeartbeats 1000000 in
theorem newDisk6 {W : World} {p : Option Addr} {c : Nat} {l : List (Nat → Int)} (hl : LiesE enK 1024 W p l) (h0 : 0 < l.length) (hn : l.length ≤ 1000000) :
    Calls Try.prog 40 #[.slice p l.length c] W fun e w' => ∃ R, e = .returned (.pointer (some ⟨R.g, 0, none⟩)) ∧ RDk w' R l.length ⟨l, l, -1, false, 0, 0⟩ ∧ Below W.heap.size W w' ∧ ∀ k, R.has k → W.heap.size ≤ k := by
  have hR := heap_alloc_new W (.cells (refRow (.slice none 0 0) (.slice none 0 0)) 51)
  have hB1 := below_new W (.cells (refRow (.slice none 0 0) (.slice none 0 0)) 51)
  have hgs : W.heap.size < (W.alloc (.cells (refRow (.slice none 0 0) (.slice none 0 0)) 51)).heap.size := by simp
  have c0 : (W.alloc (.cells (refRow (.slice none 0 0) (.slice none 0 0)) 51)).cell? ⟨W.heap.size, 0, none⟩ = some (.slice none 0 0) := Joins.cell_of_block hR 0
  obtain ⟨b1, c1, W1, hr1, ho1, hb1⟩ := blk_mid (c := c) (hl.later hB1) h0 hn
  generalize hW0 : W.alloc (.cells (refRow (.slice none 0 0) (.slice none 0 0)) 51) = W0 at *
  have k1 := heap_kept hR hb1
  have d0 := Joins.cell_of_block k1 0
  have f0 := Joins.unfrozen_of_block k1 0
  have k2 := Joins.block_setCell (i := 0) k1 (.slice (some ⟨b1, 0, none⟩) l.length c1)
  have hw1 : Below W.heap.size W (W1.setCell ⟨W.heap.size, 0, none⟩ (.slice (some ⟨b1, 0, none⟩) l.length c1)) := (below_next hB1 hb1).setCell (Nat.le_refl _) _
  have d1 := Joins.cell_of_block k2 1
  have hb1g : W0.heap.size ≤ b1 := (ho1.lt _ rfl).1
  have hn1 : b1 < W1.heap.size := (ho1.lt _ rfl).2
  have hne1 : b1 ≠ W.heap.size := by omega
  have ho1' : (W1.setCell ⟨W.heap.size, 0, none⟩ (.slice (some ⟨b1, 0, none⟩) l.length c1)).ownsRow 0 59 1024 (.slice (some ⟨b1, 0, none⟩) l.length c1) l.length (l.flatMap enK) := ownsRow_kept0 (own_base0 ho1) fun k hk => Below.heap_setCell W1 _ _ k (by injection hk with hk; rw [← hk]; exact hne1)
  have hs1 : (W1.setCell ⟨W.heap.size, 0, none⟩ (.slice (some ⟨b1, 0, none⟩) l.length c1)).heap.size = W1.heap.size := by simp
  obtain ⟨b2, c2, W2, hr2, ho2, hb2⟩ := blk_mid (c := c) (hl.later hw1) h0 hn
  have k3 := heap_kept k2 hb2
  have e1 := Joins.cell_of_block k3 1
  have f1 := Joins.unfrozen_of_block k3 1
  have hb2g : (W1.setCell ⟨W.heap.size, 0, none⟩ (.slice (some ⟨b1, 0, none⟩) l.length c1)).heap.size ≤ b2 := (ho2.lt _ rfl).1
  have hb2l : b2 < W2.heap.size := (ho2.lt _ rfl).2
  have hw2 : Below W.heap.size W (W2.setCell ⟨W.heap.size, 1, none⟩ (.slice (some ⟨b2, 0, none⟩) l.length c2)) := (below_next hw1 hb2).setCell (Nat.le_refl _) _
  have hs0 := hb1.size
  have HD : Hid (RDk (W2.setCell ⟨W.heap.size, 1, none⟩ (.slice (some ⟨b2, 0, none⟩) l.length c2)) ⟨W.heap.size, b1, c1, b2, c2⟩ l.length ⟨l, l, -1, false, 0, 0⟩) := by
    refine ⟨?_, ?_, ?_, ?_, rfl, rfl⟩
    · exact Joins.block_setCell (i := 1) k3 (.slice (some ⟨b2, 0, none⟩) l.length c2)
    · exact ownsRow_kept0 (own_later ho1' hb2) fun k hk => Below.heap_setCell W2 _ _ k (by injection hk with hk; rw [← hk]; exact hne1)
    · exact ownsRow_kept0 (own_base0 ho2) fun k hk => Below.heap_setCell W2 _ _ k (by injection hk with hk; rw [← hk]; show b2 ≠ W.heap.size; omega)
    · show b1 ≠ b2
      omega
  have HB := hidd hw2
  have HN : Hid (∀ k, (⟨W.heap.size, b1, c1, b2, c2⟩ : RL).has k → W.heap.size ≤ k) := fun k hk => by
    have hk' : k = W.heap.size ∨ k = b1 ∨ k = b2 := hk
    omega
  clear hl hR hB1 ho1 hb1 k1 k2 hw1 ho1' ho2 hb2 k3 hw2 hs1 hs0 hgs hb1g hn1 hne1 hb2g hb2l
  subst hW0
  unfold refRow at *
  change W1.cell? _ = some (.slice none 0 0) at d0
  change World.cell? _ _ = some (.slice none 0 0) at d1
  change W2.cell? _ = some (.slice none 0 0) at e1
  go_enter Try.func40, Try.ntmps40
  go_wp2_with (first | (at_builtin; refine wpList_exec rfl (exec_pushY (s := .tmp 10) (y := .tmp 11) rfl rfl rfl hr1) ?_) | (at_builtin; refine wpList_exec rfl (exec_pushY (s := .tmp 19) (y := .tmp 20) rfl rfl rfl hr2) ?_))
  go_ret
  exact ⟨_, rfl, HD.out, HB.out, HN.out⟩
end Go.Proofs.Ytencclpcebpgmaa
