/- The disk that a law fills by numbers; no condition. -/
import Derived.Test.YtencclpcebpgmaaDisks
import Derived.Deep.Cut
namespace Go.Proofs.Ytencclpcebpgmaa
open Go.RowKit Go.Maps

/-- Numbers of 16 bits that lie in memory. -/
def U16At (w : World) (p : Option Addr) (n : Nat) (f : Nat → Int) : Prop := ∀ i, i < n → ∃ b off, p = some ⟨b, off, none⟩ ∧ b < w.heap.size ∧ w.cell? ⟨b, off + i, none⟩ = some (.int .u16 (f i)) ∧ 0 ≤ f i ∧ f i < 65536
theorem wpList_neqB {ops : Array Oper} {rest : List Oper} {o : Oper} {a : Act} {w : World} {Q : Exit → Act → World → Prop} (hw : Region.wanted o (yielded ops a.tmps) = true) (x y : Operand) (ho : o.op = .binOp .neq 59 x y 59) (f g : Nat → Int) (b : Bool) (hx : a.eval x = .agg (blk f)) (hy : a.eval y = .agg (blk g)) (hb : sameB f g = b)
    (h : wpList Try.prog ops Q rest (a.put o.dst (.bool (!b))) w) : wpList Try.prog ops Q (o :: rest) a w :=
  BigFrame.wpList_want hw fun _ hK => by
    have e := neq58 f g b hb w
    unfold Oper.wp execOp
    simp only [ho, hx, hy, Sem.run_bind, neqg58, e, Result.andThen_ok, Sem.run_pure]
    exact hK _ _ h
theorem ImgAt.of {w : World} {B : Nat} {v : Value} {l : List Cel} (h : w.ownsRow B 94 1025 v l.length (celCells l)) : ∃ p c, v = .slice p l.length c ∧ ImgAt w p l := by
  have h' := h
  rcases h.2 with ⟨h1, h2⟩ | ⟨g, cap, cur, h1, hg, hh, hc, _⟩
  · exact ⟨none, 0, by rw [h1, h2], fun q => by omega⟩
  · subst h1
    exact ⟨some ⟨g, 0, none⟩, cap, rfl, fun _ => ⟨g, 0, rfl, (h'.lt g rfl).2, fun k c hk => by
      obtain ⟨a1, a2⟩ := cel_at h' (k := k) rfl hk
      rw [Nat.zero_add]
      exact ⟨a1, a2⟩⟩⟩
set_option maxRecDepth 20000 in
set_option maxHeartbeats 4000000 in
theorem disks_any {W : World} (pa : Option Addr) (n cap : Nat) (xs : Nat → Int) (hn : 1 ≤ n ∧ n ≤ 64) (hx : U16At W pa n xs) :
    Calls Try.prog 10 #[.slice pa n cap] W fun e W' => ∃ (L : Loc) (rp : Option Addr), e = .returned (.tuple #[ptr L.d, .pointer rp, .bool true]) ∧ DiskAt W' L (loadV (n : Int) (imgL xs n)) ∧ L.from W.heap.size ∧ Below W.heap.size W W' := by
  have HX : Hid (U16At W pa n xs) := hx
  have z25 := zero25
  have hbd := built58
  have hR := heap_alloc_new W (.cells #[.int .i64 (n : Int), .slice none 0 0] 92)
  have hB1 := below_new W (.cells #[.int .i64 (n : Int), .slice none 0 0] 92)
  have HDI : Hid (DI W (W.alloc (.cells #[.int .i64 (n : Int), .slice none 0 0] 92)) W.heap.size n (.slice none 0 0) (.slice none 0 0) (imgL xs 0) 0) :=
    ⟨hR, World.ownsRow_nil _ _ 94 1025, ⟨[], World.ownsRow_nil _ _ 59 1024⟩, (fun a ha => by cases ha), hB1⟩
  clear hx hR hB1
  go_enter Try.func10, Try.ntmps10
  go_wp2
  generalize hg : W.heap.size = g at *
  go_loopw [6, 7] (fun s6 s7 wx => ∃ (k : Nat) (v5 : Value), k ≤ n ∧ s7 = .int .i64 k ∧ Hid (DI W wx g n v5 s6 (imgL xs k) k)) (fun _ s7 _ => n - (intOf s7).toNat)
  case atStart => exact ⟨0, _, by omega, rfl, HDI.out⟩
  case round =>
    obtain ⟨k, v5, hk, rfl, HD⟩ := hrel
    clear HDI
    by_cases hkn : (k : Int) < n
    · obtain ⟨b, off, rfl, hbl, hcell, hy1, hy2⟩ := HX.out k (by omega)
      have hcw : wr.cell? ⟨b, off + k, none⟩ = some (.int .u16 (xs k)) := (HD.out.bel.cell (p := ⟨b, off + k, none⟩) (by rw [← hg]; exact hbl)).trans hcell
      have HF : Hid (Calls Try.prog 35 _ wr _) := fill_any (xs k) ⟨hy1, hy2⟩ wr
      have hIm : imgL xs (k + 1) = if sameB (fillF (xs k)) nought then imgL xs k else imgL xs k ++ [((k : Int), fillF (xs k))] := rfl
      have HIm : Hid (imgL xs (k + 1) = if sameB (fillF (xs k)) nought then imgL xs k else imgL xs k ++ [((k : Int), fillF (xs k))]) := hIm
      have hll := imgL_len xs k
      clear hcell hIm
      generalize fillF (xs k) = f at *
      generalize xs k = y at *
      generalize imgL xs k = l at *
      go_wp2_with (go_at_call 35; fail)
      refine HF.out.mono ?_
      rintro e W1 ⟨rfl, hb1⟩
      have h1 := (HD.out.later hb1).later (below_new W1 (.cells (blk f) 59))
      have hR8 := heap_alloc_new W1 (.cells (blk f) 59)
      have H1 : Hid (DI W (W1.alloc (.cells (blk f) 59)) g n v5 u6 l k) := h1
      have hsz1 := hb1.size
      obtain ⟨cs6, hbl6⟩ := HD.out.bl
      have hne6 : ∀ a, u6.ownBlock = some a → a < W1.heap.size := fun a ha => by have := (hbl6.lt a ha).2; omega
      have hne5 : ∀ a, v5.ownBlock = some a → a < W1.heap.size := fun a ha => by have := (HD.out.im.lt a ha).2; omega
      clear HD HF hb1 h1 hcw hbl6 hsz1
      go_upto_region 7 with (refine wpList_store58_new rfl (.tmp 8) (.tmp 24) rfl f _ _ rfl rfl rfl ?_)
      have hbl2 := H1.out.bl
      have hB2 : g + 1 ≤ (W1.alloc (.cells (blk f) 59)).heap.size := H1.out.lt
      have hg8lt : W1.heap.size < (W1.alloc (.cells (blk f) 59)).heap.size := by simp
      generalize hg8 : W1.heap.size = g8 at *
      generalize hW2 : W1.alloc (.cells (blk f) 59) = W2 at *
      have hk64 : k < 1000 := by omega
      have HR8 : Hid (∀ W3, (W2.alloc (.cells (blk f) 59)).grownBy W3 u6.ownBlock → W3.heap[g8]? = some (.cells (blk f) 59)) := fun W3 p2 => by
        rw [p2.block g8 (by simp; omega) (fun q => by have := hne6 g8 q.symm; omega), heap_alloc_old W2 _ hg8lt]
        exact hR8
      cases hb : sameB f nought
      · have HI2 : Hid (imgL xs (k + 1) = l ++ [((k : Int), f)]) := by
          have := HIm.out
          rw [hb, if_neg (by simp)] at this
          exact this
        have hl1000 : l.length < 1000 := by omega
        clear HIm
        generalize nought = N at *
        go_wp2_with (first | (refine wpList_load25 rfl (.tmp 8) rfl g8 rfl f hR8 ?_) | (refine wpList_build1 rfl 49 59 (.tmp 26) rfl _ rfl (build49 f _) ?_) | (at_builtin; refine wpList_pushB rfl (.tmp 25) (.tmp 27) rfl (g + 1) u6 k f rfl rfl hbl2 hB2 hk64 ?_; intro v6 W3 p1 p2 p3 p4; have H3 : Hid (DI W W3 g n v5 v6 l (k + 1)) := H1.out.block p1 p2 p3 p4; have hR83 := HR8.out W3 p2; have c51 := Joins.cell_of_block H3.out.row 1; have hown5 := H3.out.im; have hB3 : g + 1 ≤ W3.heap.size := H3.out.lt; clear p1 p2 p3 p4 hbl2 hR8 H1 HR8) | (refine wpList_load25 rfl (.tmp 8) rfl g8 rfl f hR83 ?_) | (refine wpList_build58 rfl rfl hbd ?_) | (refine wpList_neqB rfl (.tmp 29) (.tmp 30) rfl f N false rfl rfl hb ?_) | (refine wpList_build85 rfl (.tmp 34) (.tmp 35) rfl k f rfl rfl ?_) | (refine wpList_build1 rfl 90 94 (.tmp 36) rfl _ rfl (build30 ((k : Int), f) _) ?_) | (at_builtin; refine wpList_pushC rfl (.tmp 33) (.tmp 37) rfl (g + 1) v5 l ((k : Int), f) rfl rfl hown5 hB3 hl1000 ?_; intro v5' W4 q1 q2 q3 q4; obtain ⟨g', cap', rfl⟩ := slice_ofC q1 (by simp); obtain ⟨r1, r2, r3⟩ := H3.out.cel q1 q2 q3 q4; rw [List.length_append, show [((k : Int), f)].length = 1 from rfl] at r1; have H4 : Hid (DI W (W4.setCell ⟨g, 1, none⟩ _) g n _ v6 (l ++ [((k : Int), f)]) (k + 1)) := r1; clear q1 q2 q3 q4 r1 hown5 H3 c51))
        refine ⟨⟨k + 1, _, by omega, by go_num, (by show DI _ _ _ _ _ _ _ _; rw [HI2.out]; exact H4.out)⟩, by simp [intOf]; omega⟩
      · have HI2 : Hid (imgL xs (k + 1) = l) := by
          have := HIm.out
          rw [hb, if_pos rfl] at this
          exact this
        clear HIm
        generalize nought = N at *
        go_wp2_with (first | (refine wpList_load25 rfl (.tmp 8) rfl g8 rfl f hR8 ?_) | (refine wpList_build1 rfl 49 59 (.tmp 26) rfl _ rfl (build49 f _) ?_) | (at_builtin; refine wpList_pushB rfl (.tmp 25) (.tmp 27) rfl (g + 1) u6 k f rfl rfl hbl2 hB2 hk64 ?_; intro v6 W3 p1 p2 p3 p4; have H3 : Hid (DI W W3 g n v5 v6 l (k + 1)) := H1.out.block p1 p2 p3 p4; have hR83 := HR8.out W3 p2; clear p1 p2 p3 p4 hbl2 hR8 H1 HR8) | (refine wpList_load25 rfl (.tmp 8) rfl g8 rfl f hR83 ?_) | (refine wpList_build58 rfl rfl hbd ?_) | (refine wpList_neqB rfl (.tmp 29) (.tmp 30) rfl f N true rfl rfl hb ?_))
        refine ⟨⟨k + 1, v5, by omega, by go_num, ?_⟩, by simp [intOf]; omega⟩
        show DI _ _ _ _ _ _ _ _
        rw [HI2.out]
        exact H3.out
    · obtain rfl : k = n := by omega
      have hmay := imgL_may xs hn
      have hll := imgL_len xs k
      obtain ⟨p5, c5, rfl, hI5⟩ := ImgAt.of HD.out.im
      have hcan : ∀ c ∈ imgL xs k, Can c.2 := fun c hc => by
        obtain ⟨h1, h2, _⟩ := imgL_mem xs k c hc
        rw [h2]
        obtain ⟨_, _, _, _, _, y1, y2⟩ := HX.out c.1.toNat (by omega)
        exact fill_can _ ⟨y1, y2⟩
      have HLd : Hid (Calls Try.prog 39 #[.agg #[.int .i64 (k : Int), .slice p5 (imgL xs k).length c5]] wr _) := load_ok (k : Int) (imgL xs k) p5 c5 wr (by omega) hI5 hcan hmay
      have hrow := HD.out.row
      have i0 : wr.cell? ⟨g, 0, none⟩ = some (.int .i64 (k : Int)) := Joins.cell_of_block hrow 0
      have i1 : wr.cell? ⟨g, 1, none⟩ = some (.slice p5 (imgL xs k).length c5) := Joins.cell_of_block hrow 1
      have HBl : Hid (Blocks wr (g + 1) u6 k) := HD.out.bl
      have HBel : Hid (Below g W wr) := HD.out.bel
      have hgs : g ≤ wr.heap.size := Nat.le_of_lt HD.out.lt
      clear HD hI5 hcan hrow HX hmay hll
      generalize hl : (imgL xs k).length = m at *
      go_wp2_with (go_at_call 39; fail)
      refine HLd.out.mono ?_
      rintro e W5 ⟨L, rfl, hD5, hL5, hb5⟩
      have HND : Hid (Calls Try.prog 40 #[u6] W5 _) := newDisk_any (HBl.out.later hb5) (by omega)
      have HFin : Hid (∀ W6, Below W5.heap.size W5 W6 → DiskAt W6 L (loadV (k : Int) (imgL xs k)) ∧ L.from g ∧ Below g W W6) := fun W6 hb6 =>
        ⟨hD5.later hb6, fun q hq => by have := hL5 q hq; omega, (HBel.out.trans (hb5.mono hgs)).trans (hb6.mono (by have := hb5.size; omega))⟩
      clear HLd hD5 hL5 hb5 HBl HBel i0 i1
      go_wp2_with (go_at_call 40; fail)
      refine HND.out.mono ?_
      rintro e W6 ⟨rp, rfl, hb6⟩
      have HF6 : Hid _ := HFin.out W6 hb6
      clear HND HFin hb6
      go_wp2
      go_ret3
      exact ⟨L, rp, rfl, by rw [hg]; exact HF6.out⟩
end Go.Proofs.Ytencclpcebpgmaa
