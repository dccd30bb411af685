/- PastSome answers true: for every scene; no condition. -/
import Derived.Test.YtbnbbelkddbndaaSomeMath
import Derived.Test.YtbnbbelkddbndaaRecs
namespace Go.Proofs.Ytbnbbelkddbndaa
open Go.RowKit Go.Maps
theorem foldT_len {q : Int} : ∀ {T : List Rec} {s : List (Nat → Int)}, (T.foldl (stepT q) s).length ≤ s.length + T.length
  | [], _ => Nat.le_refl _
  | r :: t, s => by
    have ih := foldT_len (q := q) (T := t) (s := stepT q s r)
    have hs : (stepT q s r).length ≤ s.length + 1 := by
      unfold stepT tellL
      split
      · split
        · omega
        · simp
      · omega
    show (t.foldl (stepT q) (stepT q s r)).length ≤ s.length + (t.length + 1)
    omega
theorem exec_neqS {o : Oper} {a : Act} {x y : Operand} {F G : Array Value} {b : Bool} {u : World} (ho : o.op = .binOp .neq 40 x y 40) (hx : a.eval x = .agg F) (hy : a.eval y = .agg G) {f g : Nat → Int} (hF : blk f = F) (hG : blk g = G) (hb : sameB f g = b) : (execOp a.eval o).run Try.prog u = .ok (.value (.bool (!b))) u := by
  have h := eq25 f g u
  rw [hb, hF, hG] at h
  have e : (binOp .neq 40 (.agg F) (.agg G)).run Try.prog u = .ok (.bool (!b)) u := by simp only [binOp, Op.equal, Op.maxDepth, Sem.run_bind, h, Result.andThen_ok, Sem.run_pure]
  have eg : (eqGuard .neq 40 x y (.agg F) (.agg G)).run Try.prog u = .ok () u := by unfold eqGuard; simp
  unfold execOp
  simp only [ho, hx, hy, Sem.run_bind, eg, e, Result.andThen_ok, Sem.run_pure]
theorem exec_mv {a : Act} {o : Oper} {x : Operand} {v : Value} {u : World} (ho : o.op = .move x) (hx : a.eval x = v) : (execOp a.eval o).run Try.prog u = .ok (.value v) u := by
  unfold execOp
  simp [ho, hx]
theorem info4b : (Try.prog.info? 4).map (fun i => (i.zero, i.size, i.bytes)) = some (some (.bool false), 1, 1) := by kernel_rfl
theorem made_bools (n : Nat) : madeCells #[.bool false] n = ((List.replicate n false).map Value.bool).toArray := by
  apply Array.ext_getElem?
  intro j
  by_cases hj : j < n
  · simp [madeCells, hj, Nat.mod_one]
  · rw [Array.getElem?_eq_none (by simp [madeCells]; omega), Array.getElem?_eq_none (by simp; omega)]
theorem run_make26 (u : World) (n : Nat) (hn : n ≤ 281474976710656) :
    (Instr.makeSlice 26 (.int .i64 (n : Int)) (.int .i64 (n : Int))).run Try.prog u = .ok (.slice (some ⟨u.heap.size, 0, none⟩) n n) (u.alloc (.cells ((List.replicate n false).map Value.bool).toArray 4)) := by
  obtain ⟨i0, hi0, hz0, hz1, hz2⟩ := info_parts info4b
  have h := run_make (P := Try.prog) u 26 4 i0 (.bool false) Try.underlying26 hi0 hz0 .i64 .i64 n n (by omega) (Int.le_refl _) (by rw [hz2]; omega) (by omega)
  rw [Int.toNat_natCast, hz1] at h
  rw [h]
  simp [Value.cells, made_bools]
theorem bools_row {w : World} {g : Nat} {l : List Bool} {t : TypeId} (h : w.heap[g]? = some (.cells (l.map Value.bool).toArray t)) : BoolsAt w (.slice (some ⟨g, 0, none⟩) l.length l.length) l :=
  ⟨_, _, rfl, fun _ => ⟨g, 0, rfl, fun i x hx => by
    rw [Joins.cell_of_block h (0 + i), Nat.zero_add, List.getElem?_toArray, List.getElem?_map, hx]
    rfl⟩⟩
theorem bools_later {w W : World} {v : Value} {l : List Bool} (h : BoolsAt w v l) (hb : Below w.heap.size w W) : BoolsAt W v l := h.kept (Fr.ofBelow (T := fun _ => False) hb) fun _ _ _ _ z => z
theorem blockL_len {n : Int} {fs : List Rec} (ho : ∀ r ∈ fs, opOk n r = true) (l : List Cel) (q : Int) : (blockL l fs q).length ≤ 1 + fs.length := by
  rw [blockL_tail l q (tail_kind ho)]
  have := foldT_len (q := q) (T := tailR fs) (s := [lastB q nought (l ++ madeL [] fs)])
  have h2 := tail_len fs
  simp only [List.length_cons, List.length_nil] at this
  omega
set_option maxRecDepth 20000 in
set_option maxHeartbeats 2000000 in
theorem law_some (n : Int) (p : Option Addr) (l : List Cel) (cp : Nat) (po : Option Addr) (ops : List Rec) (co : Nat) (K : Int) (ka : Option Addr) (keep : List Bool) (kc : Nat) (q : Int) (w : World)
    (hI : ImgAt w p l) (hO : OpsAt w po ops) (hk : BoolsAt w (.slice ka keep.length kc) keep) (hcl : ∀ c ∈ l, Can c.2) (hcr : ∀ r ∈ ops, Can r.dat)
    (ll : l.length ≤ maxLen) (lo : ops.length ≤ maxLen) (lk : keep.length ≤ maxLen) (lc : ops.length ≤ co) :
    Calls Try.prog 4 #[.agg (sceneV n p l.length cp po ops.length co K ka keep.length kc q)] w fun e w' => e = .returned (.bool true) ∧ Below w.heap.size w w' := by
  unfold maxLen at ll lo lk
  have hB0 := below_new w (.cells (sceneV n p l.length cp po ops.length co K ka keep.length kc q) 28)
  have hG0 := heap_alloc_new w (.cells (sceneV n p l.length cp po ops.length co K ka keep.length kc q) 28)
  have hlg := fun u => large_any n p l.length cp po ops.length co K ka keep.length kc q u (by omega) (by omega) (by omega)
  have HI : Hid (ImgAt w p l) := hI
  have HO : Hid (OpsAt w po ops) := hO
  have HK : Hid (BoolsAt w (.slice ka keep.length kc) keep) := hk
  have HCl : Hid (∀ c ∈ l, Can c.2) := hcl
  have HCr : Hid (∀ r ∈ ops, Can r.dat) := hcr
  clear hI hO hk hcl hcr
  unfold sceneV at *
  go_enter Try.func4, Try.ntmps4
  go_wp2_with (go_at_call 20; fail)
  refine (lives_any _).mono ?_
  rintro e W1 ⟨rfl, hb1⟩
  have hG1 := heap_kept hG0 hb1
  have hB1 := below3 hB0 hb1
  have c0 : W1.cell? ⟨w.heap.size, 0, none⟩ = some (.int .i64 n) := Joins.cell_of_block hG1 0
  have c1 : W1.cell? ⟨w.heap.size, 1, none⟩ = some (.slice p l.length cp) := Joins.cell_of_block hG1 1
  have c2 : W1.cell? ⟨w.heap.size, 2, none⟩ = some (.slice po ops.length co) := Joins.cell_of_block hG1 2
  have c3 : W1.cell? ⟨w.heap.size, 3, none⟩ = some (.int .i64 K) := Joins.cell_of_block hG1 3
  have c4 : W1.cell? ⟨w.heap.size, 4, none⟩ = some (.slice ka keep.length kc) := Joins.cell_of_block hG1 4
  have c5 : W1.cell? ⟨w.heap.size, 5, none⟩ = some (.int .i64 q) := Joins.cell_of_block hG1 5
  clear hG0 hB0 hb1
  have hlg1 := hlg W1
  cases hbig : largeB l.length ops.length keep.length
  · rw [hbig] at hlg1
    have hsm : l.length ≤ 120 ∧ ops.length ≤ 120 ∧ keep.length ≤ 120 := by
      unfold largeB at hbig
      simp at hbig
      omega
    go_wp2_with (go_at_call 9; fail)
    refine hlg1.mono ?_
    rintro e W2 ⟨rfl, hb2⟩
    have hG2 := heap_kept hG1 hb2
    have HB2 : Hid (Below w.heap.size w W2) := below3 hB1 hb2
    have hw2 : w.heap.size < W2.heap.size := (Array.getElem?_eq_some_iff.1 hG2).1
    have HCell : Hid (∀ W, Below W2.heap.size W2 W → (W.cell? ⟨w.heap.size, 0, none⟩ = some (.int .i64 n) ∧ W.cell? ⟨w.heap.size, 1, none⟩ = some (.slice p l.length cp) ∧ W.cell? ⟨w.heap.size, 2, none⟩ = some (.slice po ops.length co) ∧ W.cell? ⟨w.heap.size, 3, none⟩ = some (.int .i64 K) ∧ W.cell? ⟨w.heap.size, 4, none⟩ = some (.slice ka keep.length kc) ∧ W.cell? ⟨w.heap.size, 5, none⟩ = some (.int .i64 q))) := fun W hW => by
      have h := heap_kept hG2 hW
      exact ⟨Joins.cell_of_block h 0, Joins.cell_of_block h 1, Joins.cell_of_block h 2, Joins.cell_of_block h 3, Joins.cell_of_block h 4, Joins.cell_of_block h 5⟩
    have HI2 : Hid (∀ W, Below W2.heap.size W2 W → ImgAt W p l) := fun W hW => (HI.out.later HB2.out).later hW
    have HO2 : Hid (∀ W, Below W2.heap.size W2 W → OpsAt W po ops) := fun W hW => (HO.out.later HB2.out).later hW
    have HK2 : Hid (∀ W, Below W2.heap.size W2 W → BoolsAt W (.slice ka keep.length kc) keep) := fun W hW => bools_later HK.out (below3 HB2.out hW)
    obtain ⟨d0, d1, d2, d3, d4, d5⟩ := HCell.out W2 (Below.refl _ _)
    clear c0 c1 c2 c3 c4 c5 hG1 hB1 hb2 hG2 HI HO HK hlg hlg1 hbig
    cases hp : pmayB n l ops K
    · go_wp2_with (go_at_call 21; fail)
      refine (after_bad n l p cp ops po co K (.slice ka keep.length kc) W2 (by omega) (HI2.out _ (Below.refl _ _)) (by omega) (HO2.out _ (Below.refl _ _)) ⟨ka, _, kc, rfl⟩ hp).mono ?_
      rintro e W3 ⟨rfl, hb3⟩
      have hb4 := below_new W3 (.cells #[.int .i64 0, .slice none 0 0] 24)
      have hA4 := heap_alloc_new W3 (.cells #[.int .i64 0, .slice none 0 0] 24)
      have h4 := below3 hb3 hb4
      obtain ⟨W4, hW4⟩ : ∃ W4, W4 = W3.alloc (.cells #[.int .i64 0, .slice none 0 0] 24) := ⟨_, rfl⟩
      have HW4 : Hid (W4 = W3.alloc (.cells #[.int .i64 0, .slice none 0 0] 24)) := hW4
      rw [← hW4] at h4 hA4
      have hw3 : w.heap.size < W3.heap.size := Nat.lt_of_lt_of_le hw2 hb3.size
      obtain ⟨e0, e1, e2, e3, e4, e5⟩ := HCell.out W3 hb3
      clear d0 d1 d2 d3 d4 d5 hW4 hb4
      go_wp2_with (go_at_call 21; fail)
      rw [← HW4.out]
      refine (after_bad n l p cp ops po co K (.slice none 0 0) W4 (by omega) (HI2.out _ h4) (by omega) (HO2.out _ h4) ⟨none, 0, 0, rfl⟩ hp).mono ?_
      rintro e W5 ⟨rfl, hb5⟩
      have h5 := below3 h4 hb5
      have hA5 := heap_kept hA4 hb5
      have a0 : W5.cell? ⟨W3.heap.size, 0, none⟩ = some (.int .i64 0) := Joins.cell_of_block hA5 0
      have a1 : W5.cell? ⟨W3.heap.size, 1, none⟩ = some (.slice none 0 0) := Joins.cell_of_block hA5 1
      have hw5 : W3.heap.size < W5.heap.size := (Array.getElem?_eq_some_iff.1 hA5).1
      have HB6 : Hid (Below w.heap.size w (W5.alloc (.cells #[.int .i64 0, .slice none 0 0] 24))) := below3 HB2.out (below3 h5 (below_new _ _))
      clear e0 e1 e2 e3 e4 e5 HW4 hA4 hA5
      go_wp2
      go_ret
      exact ⟨rfl, HB6.out⟩
    · obtain ⟨hmay, hK0, hK1, hok⟩ := pmay_parts hp
      obtain ⟨k, hkK⟩ : ∃ k : Nat, (k : Int) = K := ⟨K.toNat, by omega⟩
      have hkl : k ≤ ops.length := by omega
      have HkK : Hid ((k : Int) = K) := hkK
      have HP : Hid (pmayB n l ops (k : Int) = true) := by rw [← hkK] at hp; exact hp
      have HCf : Hid (∀ r ∈ ops.take k, Can r.dat) := fun r hr => HCr.out r (List.mem_of_mem_take hr)
      have HOf : Hid (∀ r ∈ ops.take k, opOk n r = true) := fun r hr => hok r (List.mem_of_mem_take hr)
      have HN : Hid (bndB n = true) := (may_bounds hmay).1
      clear hp hmay hok hkK
      go_wp2_with (go_at_call 21; fail)
      have af1 := after_ok n l p cp ops po co k keep ka kc W2 (by omega) (HI2.out _ (Below.refl _ _)) (by omega) (HO2.out _ (Below.refl _ _)) lc (by omega) (HK2.out _ (Below.refl _ _)) HP.out HCl.out HCr.out
      rw [HkK.out] at af1
      refine af1.mono ?_
      clear af1
      rintro e W3 ⟨g1, la, rfl, hIa, hr1, hg1, hb3⟩
      have HIa : Hid (IsImg n (afterC l (ops.take k) keep) la) := hIa
      have hla := img_len HN.out hIa
      have hb4 := below_new W3 (.cells #[.int .i64 n, .slice (some ⟨g1, 0, none⟩) la.length la.length] 24)
      have hA4 := heap_alloc_new W3 (.cells #[.int .i64 n, .slice (some ⟨g1, 0, none⟩) la.length la.length] 24)
      have h4 := below3 hb3 hb4
      have hr4 := heap_kept hr1 hb4
      obtain ⟨W4, hW4⟩ : ∃ W4, W4 = W3.alloc (.cells #[.int .i64 n, .slice (some ⟨g1, 0, none⟩) la.length la.length] 24) := ⟨_, rfl⟩
      have HW4 : Hid (W4 = W3.alloc (.cells #[.int .i64 n, .slice (some ⟨g1, 0, none⟩) la.length la.length] 24)) := hW4
      rw [← hW4] at h4 hA4 hr4
      have hw3 : w.heap.size < W3.heap.size := Nat.lt_of_lt_of_le hw2 hb3.size
      obtain ⟨e0, e1, e2, e3, e4, e5⟩ := HCell.out W3 hb3
      clear d0 d1 d2 d3 d4 d5 hW4 hb4 hr1 hIa hg1
      go_wp2_with (go_at_call 21; fail)
      rw [← HW4.out]
      have af2 := after_ok n l p cp ops po co k [] none 0 W4 (by omega) (HI2.out _ h4) (by omega) (HO2.out _ h4) lc (by simp) (bools_nil _) HP.out HCl.out HCr.out
      rw [HkK.out] at af2
      refine af2.mono ?_
      clear af2
      rintro e W5 ⟨g2, ln, rfl, hIn, hr2, hg2, hb5⟩
      have HIn : Hid (IsImg n (afterC l (ops.take k) []) ln) := hIn
      have hln := img_len HN.out hIn
      have h5 := below3 h4 hb5
      have hA5 := heap_kept hA4 hb5
      have hr5 := heap_kept hr4 hb5
      have hw5 : W3.heap.size < W5.heap.size := (Array.getElem?_eq_some_iff.1 hA5).1
      obtain ⟨W6, hW6⟩ : ∃ W6, W6 = W5.alloc (.cells #[.int .i64 n, .slice (some ⟨g2, 0, none⟩) ln.length ln.length] 24) := ⟨_, rfl⟩
      have HW6 : Hid (W6 = W5.alloc (.cells #[.int .i64 n, .slice (some ⟨g2, 0, none⟩) ln.length ln.length] 24)) := hW6
      have hb6 := below_new W5 (.cells #[.int .i64 n, .slice (some ⟨g2, 0, none⟩) ln.length ln.length] 24)
      have hN6 := heap_alloc_new W5 (.cells #[.int .i64 n, .slice (some ⟨g2, 0, none⟩) ln.length ln.length] 24)
      rw [← hW6] at hb6 hN6
      have hA6 := heap_kept hA5 hb6
      have hra6 := heap_kept hr5 hb6
      have hrn6 := heap_kept hr2 hb6
      have H6 : Hid (Below W2.heap.size W2 W6) := below3 h5 hb6
      have HBox : Hid (∀ W, Below W6.heap.size W6 W → (W.cell? ⟨W3.heap.size, 0, none⟩ = some (.int .i64 n) ∧ W.cell? ⟨W3.heap.size, 1, none⟩ = some (.slice (some ⟨g1, 0, none⟩) la.length la.length)) ∧ (W.cell? ⟨W5.heap.size, 0, none⟩ = some (.int .i64 n) ∧ W.cell? ⟨W5.heap.size, 1, none⟩ = some (.slice (some ⟨g2, 0, none⟩) ln.length ln.length)) ∧ ImgAt W (some ⟨g1, 0, none⟩) la ∧ ImgAt W (some ⟨g2, 0, none⟩) ln) := fun W hW =>
        ⟨⟨Joins.cell_of_block (heap_kept hA6 hW) 0, Joins.cell_of_block (heap_kept hA6 hW) 1⟩, ⟨Joins.cell_of_block (heap_kept hN6 hW) 0, Joins.cell_of_block (heap_kept hN6 hW) 1⟩, img_row (heap_kept hra6 hW), img_row (heap_kept hrn6 hW)⟩
      have a0 : W5.cell? ⟨W3.heap.size, 0, none⟩ = some (.int .i64 n) := Joins.cell_of_block hA5 0
      have a1 : W5.cell? ⟨W3.heap.size, 1, none⟩ = some (.slice (some ⟨g1, 0, none⟩) la.length la.length) := Joins.cell_of_block hA5 1
      have wh := whole_any n la (some ⟨g1, 0, none⟩) la.length W6 (by omega) (HBox.out W6 (Below.refl _ _)).2.2.1
      rw [show wholeE n la = 0 by unfold wholeE; rw [may_img HN.out HIa.out]; rfl] at wh
      clear e0 e1 e2 e3 e4 e5 HW4 hW6 hA4 hA5 hr4 hr5 hA6 hra6 hrn6 hN6 hIn hr2 hg2 h4 h5 hb3 hb5 hb6
      go_wp2_with (go_at_call 22; fail)
      rw [← HW6.out]
      refine wh.mono ?_
      rintro e W7 ⟨rfl, hb7⟩
      have h7 : Below W6.heap.size W6 W7 := hb7
      obtain ⟨f0, f1, f2, f3, f4, f5⟩ := HCell.out W7 (below3 H6.out h7)
      obtain ⟨⟨x0, x1⟩, ⟨y0, y1⟩, _, _⟩ := HBox.out W7 h7
      clear a0 a1 wh hb7 HW6
      by_cases hKp : K > 0
      · obtain ⟨j, hj⟩ : ∃ j : Nat, K - 1 = (j : Int) := ⟨(K - 1).toNat, by omega⟩
        have hjl : j < ops.length := by omega
        obtain ⟨bo, oo, rfl, hlt, hR⟩ := HO2.out W7 (below3 H6.out h7) (by omega)
        have hc : ops[j]? = some ops[j] := List.getElem?_eq_getElem (by omega)
        obtain ⟨q1, _, _⟩ := hR j _ hc
        have hjk : j + 1 = k := by have := HkK.out; omega
        have HBar : Hid (ops[j].kind = 2 → la = ln) := fun h2 => by
          have hf : (ops.take k)[j]? = some ops[j] := by rw [List.getElem?_take, if_pos (by omega)]; exact hc
          exact some_bar HCl.out HCf.out HOf.out (tail_bar (j := j) (by rw [List.length_take]; omega) hf h2) HIa.out HIn.out
        generalize ops[j] = r at *
        clear hc hR hlt
        by_cases h2 : r.kind = 2
        · have g2k : decide (r.kind = 2) = true := decide_eq_true h2
          have sm := same_any n la (some ⟨g1, 0, none⟩) la.length n ln (some ⟨g2, 0, none⟩) ln.length W7 (by omega) (by omega) (HBox.out W7 h7).2.2.1 (HBox.out W7 h7).2.2.2
          rw [show sameI n la n ln = true by
            unfold sameI oneB
            rw [HBar.out h2, may_img HN.out HIn.out, (celsB_iff (img_can HIn.out) (img_can HIn.out)).2 rfl]
            simp] at sm
          go_wp2_with (go_at_call 23; fail)
          refine sm.mono ?_
          rintro e W8 ⟨rfl, hb8⟩
          have h8 := below3 h7 hb8
          obtain ⟨f0, f1, f2, f3, f4, f5⟩ := HCell.out W8 (below3 H6.out h8)
          obtain ⟨⟨x0, x1⟩, ⟨y0, y1⟩, _, _⟩ := HBox.out W8 h8
          clear sm hb8
          go_wp2_with (go_at_call 24; fail)
          by_cases hq : 0 ≤ q ∧ q < n
          · have bo := block_ok n l p cp ops _ co k q W8 (by omega) (HI2.out _ (below3 H6.out h8)) (by omega) (HO2.out _ (below3 H6.out h8)) lc HP.out hq HCl.out HCr.out
            rw [HkK.out] at bo
            refine bo.mono ?_
            clear bo
            rintro e V1 ⟨v1, rfl, hr1, hv1⟩
            have hV1 := below3 h8 hv1
            have hbl := blockL_len HOf.out l q
            obtain ⟨t0, ht0⟩ := some_head HCl.out HCf.out HOf.out HIn.out q
            have HCanL : Hid (∀ x ∈ blockL l (ops.take k) q, Can x) := some_can HCl.out HCf.out HOf.out q
            have hinB : inB (blockL l (ops.take k) q) (atL la q) = true := (inB_mem HCanL.out (at_can HIa.out.sound q)).2 (some_in HCl.out HCf.out HOf.out HIa.out q)
            have HSome : Hid (∀ x ∈ blockL l (ops.take k) q, x = atL ln q ∨ ∃ (j : Nat) (r : Rec), (tailR (ops.take k))[j]? = some r ∧ r.pos = q ∧ r.dat = x) := fun x hx => some_of HCl.out HCf.out HOf.out HIn.out q hx
            have hHd : (blockL l (ops.take k) q)[0]? = some (atL ln q) := by rw [ht0]; rfl
            have hL0 : 0 < (blockL l (ops.take k) q).length := by rw [ht0]; simp
            have hbl2 : (blockL l (ops.take k) q).length ≤ 121 := by rw [List.length_take] at hbl; omega
            clear ht0 hbl
            generalize blockL l (ops.take k) q = L at *
            obtain ⟨g8, c8, rfl, hg8, _, hc8, hL⟩ := blks_own hr1 hL0
            have HL : Hid (∀ W, Below V1.heap.size V1 W → ∀ j x, L[j]? = some x → BlkAt W g8 (j * 1024) x) := fun W hW j x hx => (hL j x hx).kept (hW.block g8 hg8)
            have H8 : Hid (∀ W, Below V1.heap.size V1 W → g8 < W.heap.size) := fun W hW => Nat.lt_of_lt_of_le hg8 hW.size
            have HV1 : Hid (Below W6.heap.size W6 V1) := hV1
            obtain ⟨FA, hFA⟩ : ∃ FA, blk (atL la q) = FA := ⟨_, rfl⟩
            obtain ⟨FN, hFN⟩ : ∃ FN, blk (atL ln q) = FN := ⟨_, rfl⟩
            have ba : ∀ u, Below V1.heap.size V1 u → Calls Try.prog 26 #[.agg #[.int .i64 n, .slice (some ⟨g1, 0, none⟩) la.length la.length], .int .i64 q] u fun e w' => e = .returned (.agg FA) ∧ Below u.heap.size u w' := fun u hu => by
              rw [← hFA]
              exact blockAt_any n la (some ⟨g1, 0, none⟩) la.length q u (by omega) (HBox.out u (below3 HV1.out hu)).2.2.1
            have bn : ∀ u, Below V1.heap.size V1 u → Calls Try.prog 26 #[.agg #[.int .i64 n, .slice (some ⟨g2, 0, none⟩) ln.length ln.length], .int .i64 q] u fun e w' => e = .returned (.agg FN) ∧ Below u.heap.size u w' := fun u hu => by
              rw [← hFN]
              exact blockAt_any n ln (some ⟨g2, 0, none⟩) ln.length q u (by omega) (HBox.out u (below3 HV1.out hu)).2.2.2
            have inn : ∀ u, Below V1.heap.size V1 u → Calls Try.prog 25 #[.slice (some ⟨g8, 0, none⟩) L.length c8, .agg FA] u fun e w' => e = .returned (.bool true) ∧ Below u.heap.size u w' := fun u hu => by
              have := in_any L g8 c8 (atL la q) u (by omega) (H8.out u hu) (HL.out u hu)
              rwa [hinB, hFA] at this
            have sH : ∀ u, Below V1.heap.size V1 u → (Instr.loadAt 40 (.pointer (some ⟨g8, 0, none⟩))).run Try.prog u = .ok (.agg FN) u := fun u hu => by
              have := HL.out u hu 0 _ hHd
              rw [Nat.zero_mul] at this
              rw [← hFN]
              exact loadM this
            have sa0 : ∀ u, Below V1.heap.size V1 u → u.cell? ⟨W3.heap.size, 0, none⟩ = some (.int .i64 n) := fun u hu => (HBox.out u (below3 HV1.out hu)).1.1
            have sa1 : ∀ u, Below V1.heap.size V1 u → u.cell? ⟨W3.heap.size, 1, none⟩ = some (.slice (some ⟨g1, 0, none⟩) la.length la.length) := fun u hu => (HBox.out u (below3 HV1.out hu)).1.2
            have sn0 : ∀ u, Below V1.heap.size V1 u → u.cell? ⟨W5.heap.size, 0, none⟩ = some (.int .i64 n) := fun u hu => (HBox.out u (below3 HV1.out hu)).2.1.1
            have sn1 : ∀ u, Below V1.heap.size V1 u → u.cell? ⟨W5.heap.size, 1, none⟩ = some (.slice (some ⟨g2, 0, none⟩) ln.length ln.length) := fun u hu => (HBox.out u (below3 HV1.out hu)).2.1.2
            have sq : ∀ u, Below V1.heap.size V1 u → u.cell? ⟨w.heap.size, 5, none⟩ = some (.int .i64 q) := fun u hu => (HCell.out u (below3 H6.out (below3 HV1.out hu))).2.2.2.2.2
            have hLne : ¬ L = [] := fun e => by rw [e] at hL0; simp at hL0
            have HFN : Hid (blk (atL ln q) = FN) := hFN
            clear hr1 hv1 hL hV1 f0 f1 f2 f3 f4 f5 x0 x1 y0 y1 hFA hHd hinB hg8
            go_wp2
            refine wp_region_ord (S := fun u => Below V1.heap.size V1 u) [(0, true), (1, true), (2, true), (3, true), (4, false), (5, false), (6, true), (7, true), (8, true), (9, true), (10, true), (11, true), (12, true), (13, true), (14, true), (15, true), (16, true), (17, true), (18, true), (19, false), (20, true), (21, true)]
              (by kernel_rfl) rfl (by kernel_rfl) (fun d _ _ _ _ h => by cases d <;> exact h) ((Below.refl _ _).drew) ?_
            simp only [inOrd, List.getElem?_cons_zero, List.getElem?_cons_succ]
            have hX0 : Below V1.heap.size V1 V1.drew := (Below.refl _ _).drew
            refine wpOrd_yield (v := .slice (some ⟨g8, 0, none⟩) L.length c8) rfl (fun u _ => exec_mv rfl rfl) ?_
            simp only [Act.put, List.setIfInBounds_toArray, List.set_cons_succ, List.set_cons_zero]
            refine wpOrd_yield (v := .agg #[.int .i64 n, .slice (some ⟨g1, 0, none⟩) la.length la.length]) rfl (fun u hu => by have := sa0 u hu; have := sa1 u hu; go_simp) ?_
            simp only [Act.put, List.setIfInBounds_toArray, List.set_cons_succ, List.set_cons_zero]
            refine wpOrd_yield (v := .pointer (some ⟨w.heap.size, 5, none⟩)) rfl (fun u hu => by go_simp) ?_
            simp only [Act.put, List.setIfInBounds_toArray, List.set_cons_succ, List.set_cons_zero]
            refine wpOrd_yield (v := .int .i64 q) rfl (fun u hu => by have := sq u hu; go_simp) ?_
            simp only [Act.put, List.setIfInBounds_toArray, List.set_cons_succ, List.set_cons_zero]
            refine wpOrd_call rfl 26 _ _ rfl Try.call26 [.agg #[.int .i64 n, .slice (some ⟨g1, 0, none⟩) la.length la.length], .int .i64 q] rfl ?_
            refine (ba V1.drew hX0).mono ?_
            rintro e X1 ⟨rfl, hx1⟩
            have hX1 : Below V1.heap.size V1 X1 := below3 hX0 hx1
            refine ⟨_, rfl, hX1, ?_⟩
            simp only [Act.put, List.setIfInBounds_toArray, List.set_cons_succ, List.set_cons_zero]
            refine wpOrd_call rfl 25 _ _ rfl Try.call25 [.slice (some ⟨g8, 0, none⟩) L.length c8, .agg FA] rfl ?_
            refine (inn X1 hX1).mono ?_
            rintro e X2 ⟨rfl, hx2⟩
            have hX2 : Below V1.heap.size V1 X2 := below3 hX1 hx2
            refine ⟨_, rfl, hX2, ?_⟩
            simp only [Act.put, List.setIfInBounds_toArray, List.set_cons_succ, List.set_cons_zero]
            refine wpOrd_yield (v := .bool false) rfl (fun u hu => by go_simp) ?_
            simp only [Act.put, List.setIfInBounds_toArray, List.set_cons_succ, List.set_cons_zero]
            refine wpOrd_yield (v := .bool false) rfl (fun u _ => exec_mv rfl rfl) ?_
            simp only [Act.put, List.setIfInBounds_toArray, List.set_cons_succ, List.set_cons_zero]
            refine wpOrd_yield (v := .slice (some ⟨g8, 0, none⟩) L.length c8) rfl (fun u _ => exec_mv rfl rfl) ?_
            simp only [Act.put, List.setIfInBounds_toArray, List.set_cons_succ, List.set_cons_zero]
            refine wpOrd_yield (v := .int .i64 L.length) rfl (fun u hu => by go_simp) ?_
            simp only [Act.put, List.setIfInBounds_toArray, List.set_cons_succ, List.set_cons_zero]
            refine wpOrd_yield (v := .bool false) rfl (fun u hu => by go_simp) ?_
            simp only [Act.put, List.setIfInBounds_toArray, List.set_cons_succ, List.set_cons_zero]
            refine wpOrd_yield (v := .bool false) rfl (fun u hu => by go_simp) ?_
            simp only [Act.put, List.setIfInBounds_toArray, List.set_cons_succ, List.set_cons_zero]
            refine wpOrd_yield (v := .bool false) rfl (fun u _ => exec_mv rfl rfl) ?_
            simp only [Act.put, List.setIfInBounds_toArray, List.set_cons_succ, List.set_cons_zero]
            refine wpOrd_yield (v := .slice (some ⟨g8, 0, none⟩) L.length c8) rfl (fun u _ => exec_mv rfl rfl) ?_
            simp only [Act.put, List.setIfInBounds_toArray, List.set_cons_succ, List.set_cons_zero]
            refine wpOrd_yield (v := .pointer (some ⟨g8, 0, none⟩)) rfl (fun u hu => by go_simp) ?_
            simp only [Act.put, List.setIfInBounds_toArray, List.set_cons_succ, List.set_cons_zero]
            refine wpOrd_yield (v := .agg FN) rfl (fun u hu => exec_load rfl rfl (sH u hu)) ?_
            simp only [Act.put, List.setIfInBounds_toArray, List.set_cons_succ, List.set_cons_zero]
            refine wpOrd_yield (v := .agg #[.int .i64 n, .slice (some ⟨g2, 0, none⟩) ln.length ln.length]) rfl (fun u hu => by have := sn0 u hu; have := sn1 u hu; go_simp) ?_
            simp only [Act.put, List.setIfInBounds_toArray, List.set_cons_succ, List.set_cons_zero]
            refine wpOrd_yield (v := .pointer (some ⟨w.heap.size, 5, none⟩)) rfl (fun u hu => by go_simp) ?_
            simp only [Act.put, List.setIfInBounds_toArray, List.set_cons_succ, List.set_cons_zero]
            refine wpOrd_yield (v := .int .i64 q) rfl (fun u hu => by have := sq u hu; go_simp) ?_
            simp only [Act.put, List.setIfInBounds_toArray, List.set_cons_succ, List.set_cons_zero]
            refine wpOrd_call rfl 26 _ _ rfl Try.call26 [.agg #[.int .i64 n, .slice (some ⟨g2, 0, none⟩) ln.length ln.length], .int .i64 q] rfl ?_
            refine (bn X2 hX2).mono ?_
            rintro e X3 ⟨rfl, hx3⟩
            have hX3 : Below V1.heap.size V1 X3 := below3 hX2 hx3
            refine ⟨_, rfl, hX3, ?_⟩
            simp only [Act.put, List.setIfInBounds_toArray, List.set_cons_succ, List.set_cons_zero]
            refine wpOrd_yield (v := .bool false) rfl (fun u hu => exec_neqS rfl rfl rfl hFN hFN (sameB_self _)) ?_
            simp only [Act.put, List.setIfInBounds_toArray, List.set_cons_succ, List.set_cons_zero]
            refine wpOrd_yield (v := .bool false) rfl (fun u hu => by go_simp) ?_
            simp only [Act.put, List.setIfInBounds_toArray, List.set_cons_succ, List.set_cons_zero]
            refine wpOrd_nil ?_
            have HX : Hid (Below V1.heap.size V1 X3) := hX3
            obtain ⟨f0, f1, f2, f3, f4, f5⟩ := HCell.out X3 (below3 H6.out (below3 HV1.out hX3))
            have HBn : Hid (∀ u, Below V1.heap.size V1 u → Calls Try.prog 26 #[.agg #[.int .i64 n, .slice (some ⟨g2, 0, none⟩) ln.length ln.length], .int .i64 q] u fun e w' => e = .returned (.agg FN) ∧ Below u.heap.size u w') := bn
            clear ba bn inn sH sa0 sa1 sn0 sn1 sq hFN hX0 hX1 hX2 hX3 hx1 hx2 hx3
            go_wp2_with (go_at_call 27; fail)
            have pn := pending_any ops _ co K X3 (by omega) (HO2.out X3 (below3 H6.out (below3 HV1.out HX.out))) lc
            rw [show upTo ops.length K = k by unfold upTo; have := HkK.out; omega] at pn
            refine pn.mono ?_
            clear pn
            rintro e V2 ⟨v2, rfl, hr2, hv2⟩
            obtain ⟨p9, c9, rfl, hp9, _, _⟩ := ints_of_row hr2
            have HV2 : Hid (Below V1.heap.size V1 V2) := below3 HX.out hv2
            have HPd : Hid (pendL (ops.take k) = (List.range (tailR (ops.take k)).length).map fun j => ((sureN (ops.take k) + j : Nat) : Int)) := pendL_tail (tail_kind HOf.out)
            obtain ⟨d, hd⟩ : ∃ d, (tailR (ops.take k)).length = d := ⟨_, rfl⟩
            have hd2 : d ≤ 120 := by
              have := tail_len (ops.take k)
              rw [List.length_take] at this
              omega
            have hPl : (pendL (ops.take k)).length = d := by rw [HPd.out, List.length_map, List.length_range, hd]
            have HPi : Hid (∀ W, Below V2.heap.size V2 W → IntsAt W p9 (pendL (ops.take k))) := fun W hW => hp9.later hW
            rw [hPl]
            clear hr2 hv2 hp9 f0 f1 f2 f3 f4 f5 HX
            go_wp2
            go_loopw [10] (fun s10 wx => ∃ i : Nat, i ≤ L.length ∧ s10 = .int .i64 i ∧ Hid (Below V2.heap.size V2 wx)) (fun s10 _ => L.length - (intOf s10).toNat)
            case atStart => exact ⟨0, by omega, rfl, Below.refl _ _⟩
            case round =>
              obtain ⟨i, hi, rfl, HB⟩ := hrel
              by_cases hi2 : (i : Int) < L.length
              · have hgi : L[i]? = some L[i] := List.getElem?_eq_getElem (by omega)
                have hmem := HSome.out L[i] (List.getElem_mem _)
                have hcx := HCanL.out L[i] (List.getElem_mem _)
                generalize L[i] = x at *
                have HMem : Hid (x = atL ln q ∨ ∃ (j : Nat) (r : Rec), (tailR (ops.take k))[j]? = some r ∧ r.pos = q ∧ r.dat = x) := hmem
                have HCx : Hid (Can x) := hcx
                have hW : Below V1.heap.size V1 wr := below3 HV2.out HB.out
                obtain ⟨FX, hFX⟩ : ∃ FX, blk x = FX := ⟨_, rfl⟩
                have HSX : Hid (∀ u, Below V1.heap.size V1 u → (Instr.loadAt 40 (.pointer (some ⟨g8, i * 1024, none⟩))).run Try.prog u = .ok (.agg FX) u) := fun u hu => by
                  rw [← hFX]
                  exact loadM (HL.out u hu i x hgi)
                have sX : ∀ u, Below wr.heap.size wr u → (Instr.loadAt 40 (.pointer (some ⟨g8, i * 1024, none⟩))).run Try.prog u = .ok (.agg FX) u := fun u hu => HSX.out u (below3 hW hu)
                have sn0 : ∀ u, Below wr.heap.size wr u → u.cell? ⟨W5.heap.size, 0, none⟩ = some (.int .i64 n) := fun u hu => (HBox.out u (below3 HV1.out (below3 hW hu))).2.1.1
                have sn1 : ∀ u, Below wr.heap.size wr u → u.cell? ⟨W5.heap.size, 1, none⟩ = some (.slice (some ⟨g2, 0, none⟩) ln.length ln.length) := fun u hu => (HBox.out u (below3 HV1.out (below3 hW hu))).2.1.2
                have sq : ∀ u, Below wr.heap.size wr u → u.cell? ⟨w.heap.size, 5, none⟩ = some (.int .i64 q) := fun u hu => (HCell.out u (below3 H6.out (below3 HV1.out (below3 hW hu)))).2.2.2.2.2
                have bn : ∀ u, Below wr.heap.size wr u → Calls Try.prog 26 #[.agg #[.int .i64 n, .slice (some ⟨g2, 0, none⟩) ln.length ln.length], .int .i64 q] u fun e w' => e = .returned (.agg FN) ∧ Below u.heap.size u w' := fun u hu => HBn.out u (below3 hW hu)
                have hFN := HFN.out
                obtain ⟨f, hf⟩ : ∃ f, sameB x (atL ln q) = f := ⟨_, rfl⟩
                have HInit : Hid (f = false → x ≠ atL ln q) := fun e z => by
                  rw [z, sameB_self] at hf
                  rw [e] at hf
                  cases hf
                clear hgi hmem hcx
                go_wp2
                refine wp_region_ord (S := fun u => Below wr.heap.size wr u) [(0, true), (1, true), (2, true), (3, true), (4, true), (5, true), (6, true), (7, false), (8, true), (9, true)]
                  (by kernel_rfl) rfl (by kernel_rfl) (fun d _ _ _ _ h => by cases d <;> exact h) ((Below.refl _ _).drew) ?_
                simp only [inOrd, List.getElem?_cons_zero, List.getElem?_cons_succ]
                have hX0 : Below wr.heap.size wr wr.drew := (Below.refl _ _).drew
                refine wpOrd_yield (v := .slice (some ⟨g8, 0, none⟩) L.length c8) rfl (fun u _ => exec_mv rfl rfl) ?_
                simp only [Act.put, List.setIfInBounds_toArray, List.set_cons_succ, List.set_cons_zero]
                refine wpOrd_yield (v := .int .i64 i) rfl (fun u _ => exec_mv rfl rfl) ?_
                simp only [Act.put, List.setIfInBounds_toArray, List.set_cons_succ, List.set_cons_zero]
                refine wpOrd_yield (v := .pointer (some ⟨g8, i * 1024, none⟩)) rfl (fun u hu => by go_simp) ?_
                simp only [Act.put, List.setIfInBounds_toArray, List.set_cons_succ, List.set_cons_zero]
                refine wpOrd_yield (v := .agg FX) rfl (fun u hu => exec_load rfl rfl (sX u hu)) ?_
                simp only [Act.put, List.setIfInBounds_toArray, List.set_cons_succ, List.set_cons_zero]
                refine wpOrd_yield (v := .agg #[.int .i64 n, .slice (some ⟨g2, 0, none⟩) ln.length ln.length]) rfl (fun u hu => by have := sn0 u hu; have := sn1 u hu; go_simp) ?_
                simp only [Act.put, List.setIfInBounds_toArray, List.set_cons_succ, List.set_cons_zero]
                refine wpOrd_yield (v := .pointer (some ⟨w.heap.size, 5, none⟩)) rfl (fun u hu => by go_simp) ?_
                simp only [Act.put, List.setIfInBounds_toArray, List.set_cons_succ, List.set_cons_zero]
                refine wpOrd_yield (v := .int .i64 q) rfl (fun u hu => by have := sq u hu; go_simp) ?_
                simp only [Act.put, List.setIfInBounds_toArray, List.set_cons_succ, List.set_cons_zero]
                refine wpOrd_call rfl 26 _ _ rfl Try.call26 [.agg #[.int .i64 n, .slice (some ⟨g2, 0, none⟩) ln.length ln.length], .int .i64 q] rfl ?_
                refine (bn wr.drew hX0).mono ?_
                rintro e X1 ⟨rfl, hx1⟩
                have hX1 : Below wr.heap.size wr X1 := below3 hX0 hx1
                refine ⟨_, rfl, hX1, ?_⟩
                simp only [Act.put, List.setIfInBounds_toArray, List.set_cons_succ, List.set_cons_zero]
                refine wpOrd_yield (v := .bool f) rfl (fun u hu => exec_eq40 rfl rfl rfl hFX hFN hf) ?_
                simp only [Act.put, List.setIfInBounds_toArray, List.set_cons_succ, List.set_cons_zero]
                refine wpOrd_yield (v := .bool f) rfl (fun u hu => by go_simp) ?_
                simp only [Act.put, List.setIfInBounds_toArray, List.set_cons_succ, List.set_cons_zero]
                refine wpOrd_nil ?_
                have HB3 : Hid (Below V2.heap.size V2 X1) := below3 HB.out hX1
                clear sX sn0 sn1 sq bn hX0 hX1 hx1 hW hFN hf HB
                go_wp2
                go_loopw [11, 12] (fun s11 s12 wx => ∃ (b : Bool) (j : Nat), j ≤ d ∧ s11 = .bool b ∧ s12 = .int .i64 j ∧ Hid (b = false → x ≠ atL ln q ∧ ∀ (j' : Nat) (r : Rec), j' < j → (tailR (ops.take k))[j']? = some r → r.pos = q → r.dat ≠ x) ∧ Hid (Below V2.heap.size V2 wx)) (fun _ s12 _ => d - (intOf s12).toNat)
                case atStart => exact ⟨f, 0, by omega, rfl, rfl, fun e => ⟨HInit.out e, fun j' r h => by omega⟩, HB3.out⟩
                case round =>
                  obtain ⟨b, j, hj, rfl, rfl, HNo, HBj⟩ := hrel
                  clear HInit HB3
                  cases b
                  · by_cases hj2 : (j : Int) < d
                    · skip
                      have hgj : (tailR (ops.take k))[j]? = some (tailR (ops.take k))[j] := List.getElem?_eq_getElem (by omega)
                      have htg := hgj
                      rw [tail_get] at htg
                      obtain ⟨m, hm⟩ : ∃ m, sureN (ops.take k) + j = m := ⟨_, rfl⟩
                      rw [hm] at htg
                      have hml : m < ops.length := by
                        have := (List.getElem?_eq_some_iff.1 htg).1
                        rw [List.length_take] at this
                        omega
                      have hom : ops[m]? = some (tailR (ops.take k))[j] := by
                        rw [List.getElem?_take] at htg
                        split at htg
                        · exact htg
                        · cases htg
                      generalize (tailR (ops.take k))[j] = r at *
                      have hPj : (pendL (ops.take k))[j]? = some (m : Int) := by
                        rw [HPd.out, List.getElem?_map, List.getElem?_range (by omega), ← hm]
                        rfl
                      have HOne : Hid (∀ lk, IsImg n (afterC l (ops.take k) ((List.replicate d false).set j true)) lk → r.pos = q → atL lk q = r.dat) := fun lk h hq => some_one HCl.out HCf.out HOf.out (by omega) hgj h q hq
                      have HNx : Hid (∀ b2 : Bool, (b2 = false → r.pos = q → r.dat ≠ x) → b2 = false → x ≠ atL ln q ∧ ∀ (j' : Nat) (r' : Rec), j' < j + 1 → (tailR (ops.take k))[j']? = some r' → r'.pos = q → r'.dat ≠ x) := fun b2 h e => by
                        obtain ⟨n1, n2⟩ := HNo.out rfl
                        refine ⟨n1, fun j' r' hj' h1 h2 => ?_⟩
                        rcases Nat.lt_or_ge j' j with z | z
                        · exact n2 j' r' z h1 h2
                        · obtain rfl : j' = j := by omega
                          rw [hgj] at h1
                          injection h1 with h1
                          subst h1
                          exact h e h2
                      have HCr1 : Hid (Can r.dat) := HCr.out r (List.mem_of_getElem? hom)
                      have hBV := below3 HV2.out HBj.out
                      obtain ⟨b9, o9, hp9, hlt9, hC9⟩ := HPi.out V2 (Below.refl _ _) (by omega)
                      subst hp9
                      obtain ⟨bo', oo', hpo, hlto, hRo⟩ := HO2.out W2 (Below.refl _ _) (by omega)
                      injection hpo with hpo
                      injection hpo with e1 e2
                      subst e1 e2
                      obtain ⟨R0, hR0⟩ : ∃ R0, ((List.replicate d false).map Value.bool).toArray = R0 := ⟨_, rfl⟩
                      obtain ⟨R1, hR1⟩ : ∃ R1, (((List.replicate d false).set j true).map Value.bool).toArray = R1 := ⟨_, rfl⟩
                      have hmk : ∀ u : World, (Instr.makeSlice 26 (.int .i64 (d : Int)) (.int .i64 (d : Int))).run Try.prog u = .ok (.slice (some ⟨u.heap.size, 0, none⟩) d d) (u.alloc (.cells R0 4)) := fun u => by rw [← hR0]; exact run_make26 u d (by omega)
                      have hrU := heap_alloc_new wr (.cells R0 4)
                      have ck : (wr.alloc (.cells R0 4)).cell? ⟨wr.heap.size, j, none⟩ = some (.bool false) := by
                        rw [Joins.cell_of_block hrU j, ← hR0, List.getElem?_toArray, List.getElem?_map, List.getElem?_replicate, if_pos (by omega)]
                        rfl
                      have fk : (wr.alloc (.cells R0 4)).frozen? ⟨wr.heap.size, j, none⟩ = false := Joins.unfrozen_of_block hrU j
                      have hrU2 := heap_alloc_new wr (.cells (R0.setIfInBounds j (.bool true)) 4)
                      have hR01 : R0.setIfInBounds j (.bool true) = R1 := by
                        rw [← hR0, ← hR1, List.setIfInBounds_toArray, List.map_set]
                      have hbU2 := below_new wr (.cells (R0.setIfInBounds j (.bool true)) 4)
                      obtain ⟨U2, hU2⟩ : ∃ U2, U2 = wr.alloc (.cells (R0.setIfInBounds j (.bool true)) 4) := ⟨_, rfl⟩
                      have HU2 : Hid (U2 = wr.alloc (.cells (R0.setIfInBounds j (.bool true)) 4)) := hU2
                      rw [← hU2] at hrU2 hbU2
                      have hbl : BoolsAt U2 (.slice (some ⟨wr.heap.size, 0, none⟩) d d) ((List.replicate d false).set j true) := by
                        have := bools_row (l := (List.replicate d false).set j true) (by rw [hR1, ← hR01]; exact hrU2)
                        rwa [show ((List.replicate d false).set j true).length = d by simp] at this
                      have hV2U : Below V2.heap.size V2 U2 := below3 HBj.out hbU2
                      have h2U : Below W2.heap.size W2 U2 := below3 H6.out (below3 HV1.out (below3 HV2.out hV2U))
                      have hwwr : w.heap.size < wr.heap.size := Nat.lt_of_lt_of_le hw2 (below3 H6.out (below3 HV1.out hBV)).size
                      have HBl : Hid (BoolsAt U2 (.slice (some ⟨wr.heap.size, 0, none⟩) d d) ((List.replicate d false).set j true)) := hbl
                      obtain ⟨z0, z1, z2, z3, z4, z5⟩ := HCell.out wr (below3 H6.out (below3 HV1.out hBV))
                      have HSp : Hid (∀ u, Below V2.heap.size V2 u → u.cell? ⟨bo, oo + m * 1026 + 1, none⟩ = some (.int .i64 r.pos) ∧ u.cell? ⟨b9, o9 + j, none⟩ = some (.int .i64 (m : Nat))) := fun u hu =>
                        ⟨((hRo.later (below3 H6.out (below3 HV1.out (below3 HV2.out hu))) hlto) m r hom).2.1, (hu.cell (p := ⟨b9, o9 + j, none⟩) hlt9).trans (hC9 j _ hPj)⟩
                      clear hgj htg hm hPj hrU hR01 hrU2 hbl hC9 hRo hbU2 hU2 HNo hR0 hR1
                      go_wp2_with (go_at_call 21; fail)
                      rw [← HU2.out]
                      have af := after_ok n l p cp ops _ co k ((List.replicate d false).set j true) (some ⟨wr.heap.size, 0, none⟩) d U2 (by omega) (HI2.out _ h2U) (by omega) (HO2.out _ h2U) lc (by simp; omega) (by rw [show ((List.replicate d false).set j true).length = d by simp]; exact HBl.out) HP.out HCl.out HCr.out
                      rw [HkK.out, show ((List.replicate d false).set j true).length = d by simp] at af
                      refine af.mono ?_
                      clear af
                      rintro e U3 ⟨g3, lk, rfl, hIk, hr3, hg3, hb3⟩
                      have hlk := img_len HN.out hIk
                      have hck := at_can hIk.sound q
                      have HOk : Hid (r.pos = q → atL lk q = r.dat) := HOne.out lk hIk
                      obtain ⟨U4, hU4⟩ : ∃ U4, U4 = U3.alloc (.cells #[.int .i64 n, .slice (some ⟨g3, 0, none⟩) lk.length lk.length] 24) := ⟨_, rfl⟩
                      have HU4 : Hid (U4 = U3.alloc (.cells #[.int .i64 n, .slice (some ⟨g3, 0, none⟩) lk.length lk.length] 24)) := hU4
                      have hb4 := below_new U3 (.cells #[.int .i64 n, .slice (some ⟨g3, 0, none⟩) lk.length lk.length] 24)
                      have hK4 := heap_alloc_new U3 (.cells #[.int .i64 n, .slice (some ⟨g3, 0, none⟩) lk.length lk.length] 24)
                      rw [← hU4] at hb4 hK4
                      have hr4 := heap_kept hr3 hb4
                      have hV4 : Below V2.heap.size V2 U4 := below3 hV2U (below3 hb3 hb4)
                      have HV4 : Hid (Below V2.heap.size V2 U4) := hV4
                      have hk34 : U3.heap.size < U4.heap.size := (Array.getElem?_eq_some_iff.1 hK4).1
                      have so : ∀ u, Below U4.heap.size U4 u → u.cell? ⟨w.heap.size, 2, none⟩ = some (.slice (some ⟨bo, oo, none⟩) ops.length co) := fun u hu => (HCell.out u (below3 H6.out (below3 HV1.out (below3 HV2.out (below3 HV4.out hu))))).2.2.1
                      have sq : ∀ u, Below U4.heap.size U4 u → u.cell? ⟨w.heap.size, 5, none⟩ = some (.int .i64 q) := fun u hu => (HCell.out u (below3 H6.out (below3 HV1.out (below3 HV2.out (below3 HV4.out hu))))).2.2.2.2.2
                      have sm : ∀ u, Below U4.heap.size U4 u → u.cell? ⟨b9, o9 + j, none⟩ = some (.int .i64 (m : Nat)) := fun u hu => (HSp.out u (below3 HV4.out hu)).2
                      have sp : ∀ u, Below U4.heap.size U4 u → u.cell? ⟨bo, oo + m * 1026 + 1, none⟩ = some (.int .i64 r.pos) := fun u hu => (HSp.out u (below3 HV4.out hu)).1
                      have sk0 : ∀ u, Below U4.heap.size U4 u → u.cell? ⟨U3.heap.size, 0, none⟩ = some (.int .i64 n) := fun u hu => Joins.cell_of_block (heap_kept hK4 hu) 0
                      have sk1 : ∀ u, Below U4.heap.size U4 u → u.cell? ⟨U3.heap.size, 1, none⟩ = some (.slice (some ⟨g3, 0, none⟩) lk.length lk.length) := fun u hu => Joins.cell_of_block (heap_kept hK4 hu) 1
                      have sX : ∀ u, Below U4.heap.size U4 u → (Instr.loadAt 40 (.pointer (some ⟨g8, i * 1024, none⟩))).run Try.prog u = .ok (.agg FX) u := fun u hu => HSX.out u (below3 HV2.out (below3 HV4.out hu))
                      obtain ⟨FK, hFK⟩ : ∃ FK, blk (atL lk q) = FK := ⟨_, rfl⟩
                      have bk : ∀ u, Below U4.heap.size U4 u → Calls Try.prog 26 #[.agg #[.int .i64 n, .slice (some ⟨g3, 0, none⟩) lk.length lk.length], .int .i64 q] u fun e w' => e = .returned (.agg FK) ∧ Below u.heap.size u w' := fun u hu => by
                        rw [← hFK]
                        exact blockAt_any n lk (some ⟨g3, 0, none⟩) lk.length q u (by omega) (img_row (heap_kept hr4 hu))
                      clear hb3 hb4 hK4 hr3 hr4 hV4 hV2U h2U hIk hg3 hck ck fk hmk z0 z1 z2 z3 z4 z5 hU4 HU2 hom
                      go_wp2
                      rw [← HU4.out]
                      by_cases hpq : r.pos = q
                      · obtain ⟨b2, hb2⟩ : ∃ b2, sameB (atL lk q) x = b2 := ⟨_, rfl⟩
                        have hbt : b2 = false → r.pos = q → r.dat ≠ x := fun e h1 h2 => by
                          rw [HOk.out h1, h2, sameB_self, e] at hb2
                          cases hb2
                        have gpq : decide (r.pos = q) = true := decide_eq_true hpq
                        refine wp_region_ord (S := fun u => Below U4.heap.size U4 u) [(0, true), (1, true), (2, true), (3, true), (4, true), (5, true), (6, true), (7, true), (8, true), (9, true), (10, true), (11, true), (12, true), (13, true), (14, true), (15, true), (16, true), (17, true), (18, true), (19, true), (21, true), (22, true), (23, true), (24, true), (20, false), (25, true), (26, true), (27, true)]
                          (by kernel_rfl) rfl (by kernel_rfl) (fun d _ _ _ _ h => by cases d <;> exact h) ((Below.refl _ _).drew) ?_
                        simp only [inOrd, List.getElem?_cons_zero, List.getElem?_cons_succ]
                        have hX0 : Below U4.heap.size U4 U4.drew := (Below.refl _ _).drew
                        refine wpOrd_yield (v := .int .i64 0) rfl (fun u _ => exec_mv rfl rfl) ?_
                        simp only [Act.put, List.setIfInBounds_toArray, List.set_cons_succ, List.set_cons_zero]
                        refine wpOrd_yield (v := .bool true) rfl (fun u hu => by go_simp) ?_
                        simp only [Act.put, List.setIfInBounds_toArray, List.set_cons_succ, List.set_cons_zero]
                        refine wpOrd_yield (v := .bool true) rfl (fun u _ => exec_mv rfl rfl) ?_
                        simp only [Act.put, List.setIfInBounds_toArray, List.set_cons_succ, List.set_cons_zero]
                        refine wpOrd_yield (v := .pointer (some ⟨w.heap.size, 2, none⟩)) rfl (fun u hu => by go_simp) ?_
                        simp only [Act.put, List.setIfInBounds_toArray, List.set_cons_succ, List.set_cons_zero]
                        refine wpOrd_yield (v := .slice (some ⟨bo, oo, none⟩) ops.length co) rfl (fun u hu => by have := so u hu; go_simp) ?_
                        simp only [Act.put, List.setIfInBounds_toArray, List.set_cons_succ, List.set_cons_zero]
                        refine wpOrd_yield (v := .slice (some ⟨b9, o9, none⟩) d c9) rfl (fun u _ => exec_mv rfl rfl) ?_
                        simp only [Act.put, List.setIfInBounds_toArray, List.set_cons_succ, List.set_cons_zero]
                        refine wpOrd_yield (v := .int .i64 j) rfl (fun u _ => exec_mv rfl rfl) ?_
                        simp only [Act.put, List.setIfInBounds_toArray, List.set_cons_succ, List.set_cons_zero]
                        refine wpOrd_yield (v := .pointer (some ⟨b9, o9 + j, none⟩)) rfl (fun u hu => by go_simp) ?_
                        simp only [Act.put, List.setIfInBounds_toArray, List.set_cons_succ, List.set_cons_zero]
                        refine wpOrd_yield (v := .int .i64 (m : Nat)) rfl (fun u hu => by have := sm u hu; go_simp) ?_
                        simp only [Act.put, List.setIfInBounds_toArray, List.set_cons_succ, List.set_cons_zero]
                        refine wpOrd_yield (v := .pointer (some ⟨bo, oo + m * 1026, none⟩)) rfl (fun u hu => by go_simp) ?_
                        simp only [Act.put, List.setIfInBounds_toArray, List.set_cons_succ, List.set_cons_zero]
                        refine wpOrd_yield (v := .pointer (some ⟨bo, oo + m * 1026 + 1, none⟩)) rfl (fun u hu => by go_simp) ?_
                        simp only [Act.put, List.setIfInBounds_toArray, List.set_cons_succ, List.set_cons_zero]
                        refine wpOrd_yield (v := .int .i64 r.pos) rfl (fun u hu => by have := sp u hu; go_simp) ?_
                        simp only [Act.put, List.setIfInBounds_toArray, List.set_cons_succ, List.set_cons_zero]
                        refine wpOrd_yield (v := .pointer (some ⟨w.heap.size, 5, none⟩)) rfl (fun u hu => by go_simp) ?_
                        simp only [Act.put, List.setIfInBounds_toArray, List.set_cons_succ, List.set_cons_zero]
                        refine wpOrd_yield (v := .int .i64 q) rfl (fun u hu => by have := sq u hu; go_simp) ?_
                        simp only [Act.put, List.setIfInBounds_toArray, List.set_cons_succ, List.set_cons_zero]
                        refine wpOrd_yield (v := .bool true) rfl (fun u hu => by go_simp) ?_
                        simp only [Act.put, List.setIfInBounds_toArray, List.set_cons_succ, List.set_cons_zero]
                        refine wpOrd_yield (v := .bool true) rfl (fun u hu => by go_simp) ?_
                        simp only [Act.put, List.setIfInBounds_toArray, List.set_cons_succ, List.set_cons_zero]
                        refine wpOrd_yield (v := .bool true) rfl (fun u _ => exec_mv rfl rfl) ?_
                        simp only [Act.put, List.setIfInBounds_toArray, List.set_cons_succ, List.set_cons_zero]
                        refine wpOrd_yield (v := .agg #[.int .i64 n, .slice (some ⟨g3, 0, none⟩) lk.length lk.length]) rfl (fun u hu => by have := sk0 u hu; have := sk1 u hu; go_simp) ?_
                        simp only [Act.put, List.setIfInBounds_toArray, List.set_cons_succ, List.set_cons_zero]
                        refine wpOrd_yield (v := .pointer (some ⟨w.heap.size, 5, none⟩)) rfl (fun u hu => by go_simp) ?_
                        simp only [Act.put, List.setIfInBounds_toArray, List.set_cons_succ, List.set_cons_zero]
                        refine wpOrd_yield (v := .int .i64 q) rfl (fun u hu => by have := sq u hu; go_simp) ?_
                        simp only [Act.put, List.setIfInBounds_toArray, List.set_cons_succ, List.set_cons_zero]
                        refine wpOrd_yield (v := .slice (some ⟨g8, 0, none⟩) L.length c8) rfl (fun u _ => exec_mv rfl rfl) ?_
                        simp only [Act.put, List.setIfInBounds_toArray, List.set_cons_succ, List.set_cons_zero]
                        refine wpOrd_yield (v := .int .i64 i) rfl (fun u _ => exec_mv rfl rfl) ?_
                        simp only [Act.put, List.setIfInBounds_toArray, List.set_cons_succ, List.set_cons_zero]
                        refine wpOrd_yield (v := .pointer (some ⟨g8, i * 1024, none⟩)) rfl (fun u hu => by go_simp) ?_
                        simp only [Act.put, List.setIfInBounds_toArray, List.set_cons_succ, List.set_cons_zero]
                        refine wpOrd_yield (v := .agg FX) rfl (fun u hu => exec_load rfl rfl (sX u hu)) ?_
                        simp only [Act.put, List.setIfInBounds_toArray, List.set_cons_succ, List.set_cons_zero]
                        refine wpOrd_call rfl 26 _ _ rfl Try.call26 [.agg #[.int .i64 n, .slice (some ⟨g3, 0, none⟩) lk.length lk.length], .int .i64 q] rfl ?_
                        refine (bk U4.drew hX0).mono ?_
                        rintro e X1 ⟨rfl, hx1⟩
                        have hX1 : Below U4.heap.size U4 X1 := below3 hX0 hx1
                        refine ⟨_, rfl, hX1, ?_⟩
                        simp only [Act.put, List.setIfInBounds_toArray, List.set_cons_succ, List.set_cons_zero]
                        refine wpOrd_yield (v := .bool b2) rfl (fun u hu => exec_eq40 rfl rfl rfl hFK hFX hb2) ?_
                        simp only [Act.put, List.setIfInBounds_toArray, List.set_cons_succ, List.set_cons_zero]
                        refine wpOrd_yield (v := .bool b2) rfl (fun u hu => by go_simp) ?_
                        simp only [Act.put, List.setIfInBounds_toArray, List.set_cons_succ, List.set_cons_zero]
                        refine wpOrd_yield (v := .bool b2) rfl (fun u hu => by go_simp) ?_
                        simp only [Act.put, List.setIfInBounds_toArray, List.set_cons_succ, List.set_cons_zero]
                        refine wpOrd_nil ?_
                        have HX : Hid (Below V2.heap.size V2 X1) := below3 HV4.out hX1
                        have HBt : Hid (b2 = false → r.pos = q → r.dat ≠ x) := hbt
                        clear so sq sm sp sk0 sk1 sX bk hX0 hX1 hx1 hb2 hbt hFK
                        go_wp2
                        exact ⟨⟨b2, j + 1, by omega, rfl, by go_num, HNx.out b2 HBt.out, HX.out⟩, by simp [intOf]; omega⟩
                      · have gpq : decide (r.pos = q) = false := decide_eq_false hpq
                        refine wp_region_ord (S := fun u => Below U4.heap.size U4 u) [(0, true), (1, true), (2, true), (3, true), (4, true), (5, true), (6, true), (7, true), (8, true), (9, true), (10, true), (11, true), (12, true), (13, true), (14, true), (15, true), (16, true), (17, true), (18, true), (19, true), (21, true), (22, true), (23, true), (24, true), (20, false), (25, true), (26, true), (27, true)]
                          (by kernel_rfl) rfl (by kernel_rfl) (fun d _ _ _ _ h => by cases d <;> exact h) ((Below.refl _ _).drew) ?_
                        simp only [inOrd, List.getElem?_cons_zero, List.getElem?_cons_succ]
                        have hX0 : Below U4.heap.size U4 U4.drew := (Below.refl _ _).drew
                        refine wpOrd_yield (v := .int .i64 0) rfl (fun u _ => exec_mv rfl rfl) ?_
                        simp only [Act.put, List.setIfInBounds_toArray, List.set_cons_succ, List.set_cons_zero]
                        refine wpOrd_yield (v := .bool true) rfl (fun u hu => by go_simp) ?_
                        simp only [Act.put, List.setIfInBounds_toArray, List.set_cons_succ, List.set_cons_zero]
                        refine wpOrd_yield (v := .bool true) rfl (fun u _ => exec_mv rfl rfl) ?_
                        simp only [Act.put, List.setIfInBounds_toArray, List.set_cons_succ, List.set_cons_zero]
                        refine wpOrd_yield (v := .pointer (some ⟨w.heap.size, 2, none⟩)) rfl (fun u hu => by go_simp) ?_
                        simp only [Act.put, List.setIfInBounds_toArray, List.set_cons_succ, List.set_cons_zero]
                        refine wpOrd_yield (v := .slice (some ⟨bo, oo, none⟩) ops.length co) rfl (fun u hu => by have := so u hu; go_simp) ?_
                        simp only [Act.put, List.setIfInBounds_toArray, List.set_cons_succ, List.set_cons_zero]
                        refine wpOrd_yield (v := .slice (some ⟨b9, o9, none⟩) d c9) rfl (fun u _ => exec_mv rfl rfl) ?_
                        simp only [Act.put, List.setIfInBounds_toArray, List.set_cons_succ, List.set_cons_zero]
                        refine wpOrd_yield (v := .int .i64 j) rfl (fun u _ => exec_mv rfl rfl) ?_
                        simp only [Act.put, List.setIfInBounds_toArray, List.set_cons_succ, List.set_cons_zero]
                        refine wpOrd_yield (v := .pointer (some ⟨b9, o9 + j, none⟩)) rfl (fun u hu => by go_simp) ?_
                        simp only [Act.put, List.setIfInBounds_toArray, List.set_cons_succ, List.set_cons_zero]
                        refine wpOrd_yield (v := .int .i64 (m : Nat)) rfl (fun u hu => by have := sm u hu; go_simp) ?_
                        simp only [Act.put, List.setIfInBounds_toArray, List.set_cons_succ, List.set_cons_zero]
                        refine wpOrd_yield (v := .pointer (some ⟨bo, oo + m * 1026, none⟩)) rfl (fun u hu => by go_simp) ?_
                        simp only [Act.put, List.setIfInBounds_toArray, List.set_cons_succ, List.set_cons_zero]
                        refine wpOrd_yield (v := .pointer (some ⟨bo, oo + m * 1026 + 1, none⟩)) rfl (fun u hu => by go_simp) ?_
                        simp only [Act.put, List.setIfInBounds_toArray, List.set_cons_succ, List.set_cons_zero]
                        refine wpOrd_yield (v := .int .i64 r.pos) rfl (fun u hu => by have := sp u hu; go_simp) ?_
                        simp only [Act.put, List.setIfInBounds_toArray, List.set_cons_succ, List.set_cons_zero]
                        refine wpOrd_yield (v := .pointer (some ⟨w.heap.size, 5, none⟩)) rfl (fun u hu => by go_simp) ?_
                        simp only [Act.put, List.setIfInBounds_toArray, List.set_cons_succ, List.set_cons_zero]
                        refine wpOrd_yield (v := .int .i64 q) rfl (fun u hu => by have := sq u hu; go_simp) ?_
                        simp only [Act.put, List.setIfInBounds_toArray, List.set_cons_succ, List.set_cons_zero]
                        refine wpOrd_yield (v := .bool false) rfl (fun u hu => by go_simp) ?_
                        simp only [Act.put, List.setIfInBounds_toArray, List.set_cons_succ, List.set_cons_zero]
                        refine wpOrd_yield (v := .bool false) rfl (fun u hu => by go_simp) ?_
                        simp only [Act.put, List.setIfInBounds_toArray, List.set_cons_succ, List.set_cons_zero]
                        refine wpOrd_yield (v := .bool false) rfl (fun u _ => exec_mv rfl rfl) ?_
                        simp only [Act.put, List.setIfInBounds_toArray, List.set_cons_succ, List.set_cons_zero]
                        refine wpOrd_skip hX0 rfl ?_
                        simp only [Act.put, List.setIfInBounds_toArray, List.set_cons_succ, List.set_cons_zero]
                        refine wpOrd_skip hX0 rfl ?_
                        simp only [Act.put, List.setIfInBounds_toArray, List.set_cons_succ, List.set_cons_zero]
                        refine wpOrd_skip hX0 rfl ?_
                        simp only [Act.put, List.setIfInBounds_toArray, List.set_cons_succ, List.set_cons_zero]
                        refine wpOrd_skip hX0 rfl ?_
                        simp only [Act.put, List.setIfInBounds_toArray, List.set_cons_succ, List.set_cons_zero]
                        refine wpOrd_skip hX0 rfl ?_
                        simp only [Act.put, List.setIfInBounds_toArray, List.set_cons_succ, List.set_cons_zero]
                        refine wpOrd_skip hX0 rfl ?_
                        simp only [Act.put, List.setIfInBounds_toArray, List.set_cons_succ, List.set_cons_zero]
                        refine wpOrd_skip hX0 rfl ?_
                        simp only [Act.put, List.setIfInBounds_toArray, List.set_cons_succ, List.set_cons_zero]
                        refine wpOrd_skip hX0 rfl ?_
                        simp only [Act.put, List.setIfInBounds_toArray, List.set_cons_succ, List.set_cons_zero]
                        refine wpOrd_skip hX0 rfl ?_
                        simp only [Act.put, List.setIfInBounds_toArray, List.set_cons_succ, List.set_cons_zero]
                        refine wpOrd_yield (v := .bool false) rfl (fun u hu => by go_simp) ?_
                        simp only [Act.put, List.setIfInBounds_toArray, List.set_cons_succ, List.set_cons_zero]
                        refine wpOrd_yield (v := .bool false) rfl (fun u hu => by go_simp) ?_
                        simp only [Act.put, List.setIfInBounds_toArray, List.set_cons_succ, List.set_cons_zero]
                        refine wpOrd_nil ?_
                        have HX : Hid (Below V2.heap.size V2 U4.drew) := below3 HV4.out hX0
                        have HPq : Hid (¬ r.pos = q) := hpq
                        clear so sq sm sp sk0 sk1 sX bk hX0 hFK
                        generalize U4.drew = U5 at *
                        go_wp2
                        exact ⟨⟨false, j + 1, by omega, rfl, by go_num, HNx.out false (fun _ h => absurd h HPq.out), HX.out⟩, by simp [intOf]; omega⟩
                    · exfalso
                      obtain ⟨n1, n2⟩ := HNo.out rfl
                      rcases HMem.out with h | ⟨j', r, h1, h2, h3⟩
                      · exact n1 h
                      · exact n2 j' r (by have := (List.getElem?_eq_some_iff.1 h1).1; omega) h1 h2 h3
                  · have hBw := below3 (below3 HB2.out (below3 H6.out HV1.out)) HV2.out
                    by_cases hj2 : (j : Int) < d
                    · go_wp2
                      exact ⟨⟨i + 1, by omega, by go_num, HBj.out⟩, by simp [intOf]; omega⟩
                    · go_wp2
                      exact ⟨⟨i + 1, by omega, by go_num, HBj.out⟩, by simp [intOf]; omega⟩
              · go_wp2
                go_ret
                exact ⟨rfl, below3 HB2.out (below3 H6.out (below3 HV1.out (below3 HV2.out HB.out)))⟩
          · refine (block_bad n l p cp ops _ co K q W8 (by omega) (HI2.out _ (below3 H6.out h8)) (by omega) (HO2.out _ (below3 H6.out h8)) (.inr (by omega))).mono ?_
            rintro e V1 ⟨rfl, hv1⟩
            have hV1 := below3 h8 hv1
            obtain ⟨z0, z1, z2, z3, z4, z5⟩ := HCell.out V1 (below3 H6.out hV1)
            have HV1 : Hid (Below W6.heap.size W6 V1) := hV1
            clear f0 f1 f2 f3 f4 f5 x0 x1 y0 y1 hv1 hV1
            by_cases hq0 : q < 0
            · go_wp2
              go_ret
              exact ⟨rfl, below3 HB2.out (below3 H6.out HV1.out)⟩
            · have hqn : q ≥ n := by omega
              go_wp2
              go_ret
              exact ⟨rfl, below3 HB2.out (below3 H6.out HV1.out)⟩
        · have g2k : decide (r.kind = 2) = false := decide_eq_false h2
          go_wp2_with (go_at_call 24; fail)
          by_cases hq : 0 ≤ q ∧ q < n
          · have bo := block_ok n l p cp ops _ co k q W7 (by omega) (HI2.out _ (below3 H6.out h7)) (by omega) (HO2.out _ (below3 H6.out h7)) lc HP.out hq HCl.out HCr.out
            rw [HkK.out] at bo
            refine bo.mono ?_
            clear bo
            rintro e V1 ⟨v1, rfl, hr1, hv1⟩
            have hV1 := below3 h7 hv1
            have hbl := blockL_len HOf.out l q
            obtain ⟨t0, ht0⟩ := some_head HCl.out HCf.out HOf.out HIn.out q
            have HCanL : Hid (∀ x ∈ blockL l (ops.take k) q, Can x) := some_can HCl.out HCf.out HOf.out q
            have hinB : inB (blockL l (ops.take k) q) (atL la q) = true := (inB_mem HCanL.out (at_can HIa.out.sound q)).2 (some_in HCl.out HCf.out HOf.out HIa.out q)
            have HSome : Hid (∀ x ∈ blockL l (ops.take k) q, x = atL ln q ∨ ∃ (j : Nat) (r : Rec), (tailR (ops.take k))[j]? = some r ∧ r.pos = q ∧ r.dat = x) := fun x hx => some_of HCl.out HCf.out HOf.out HIn.out q hx
            have hHd : (blockL l (ops.take k) q)[0]? = some (atL ln q) := by rw [ht0]; rfl
            have hL0 : 0 < (blockL l (ops.take k) q).length := by rw [ht0]; simp
            have hbl2 : (blockL l (ops.take k) q).length ≤ 121 := by rw [List.length_take] at hbl; omega
            clear ht0 hbl
            generalize blockL l (ops.take k) q = L at *
            obtain ⟨g8, c8, rfl, hg8, _, hc8, hL⟩ := blks_own hr1 hL0
            have HL : Hid (∀ W, Below V1.heap.size V1 W → ∀ j x, L[j]? = some x → BlkAt W g8 (j * 1024) x) := fun W hW j x hx => (hL j x hx).kept (hW.block g8 hg8)
            have H8 : Hid (∀ W, Below V1.heap.size V1 W → g8 < W.heap.size) := fun W hW => Nat.lt_of_lt_of_le hg8 hW.size
            have HV1 : Hid (Below W6.heap.size W6 V1) := hV1
            obtain ⟨FA, hFA⟩ : ∃ FA, blk (atL la q) = FA := ⟨_, rfl⟩
            obtain ⟨FN, hFN⟩ : ∃ FN, blk (atL ln q) = FN := ⟨_, rfl⟩
            have ba : ∀ u, Below V1.heap.size V1 u → Calls Try.prog 26 #[.agg #[.int .i64 n, .slice (some ⟨g1, 0, none⟩) la.length la.length], .int .i64 q] u fun e w' => e = .returned (.agg FA) ∧ Below u.heap.size u w' := fun u hu => by
              rw [← hFA]
              exact blockAt_any n la (some ⟨g1, 0, none⟩) la.length q u (by omega) (HBox.out u (below3 HV1.out hu)).2.2.1
            have bn : ∀ u, Below V1.heap.size V1 u → Calls Try.prog 26 #[.agg #[.int .i64 n, .slice (some ⟨g2, 0, none⟩) ln.length ln.length], .int .i64 q] u fun e w' => e = .returned (.agg FN) ∧ Below u.heap.size u w' := fun u hu => by
              rw [← hFN]
              exact blockAt_any n ln (some ⟨g2, 0, none⟩) ln.length q u (by omega) (HBox.out u (below3 HV1.out hu)).2.2.2
            have inn : ∀ u, Below V1.heap.size V1 u → Calls Try.prog 25 #[.slice (some ⟨g8, 0, none⟩) L.length c8, .agg FA] u fun e w' => e = .returned (.bool true) ∧ Below u.heap.size u w' := fun u hu => by
              have := in_any L g8 c8 (atL la q) u (by omega) (H8.out u hu) (HL.out u hu)
              rwa [hinB, hFA] at this
            have sH : ∀ u, Below V1.heap.size V1 u → (Instr.loadAt 40 (.pointer (some ⟨g8, 0, none⟩))).run Try.prog u = .ok (.agg FN) u := fun u hu => by
              have := HL.out u hu 0 _ hHd
              rw [Nat.zero_mul] at this
              rw [← hFN]
              exact loadM this
            have sa0 : ∀ u, Below V1.heap.size V1 u → u.cell? ⟨W3.heap.size, 0, none⟩ = some (.int .i64 n) := fun u hu => (HBox.out u (below3 HV1.out hu)).1.1
            have sa1 : ∀ u, Below V1.heap.size V1 u → u.cell? ⟨W3.heap.size, 1, none⟩ = some (.slice (some ⟨g1, 0, none⟩) la.length la.length) := fun u hu => (HBox.out u (below3 HV1.out hu)).1.2
            have sn0 : ∀ u, Below V1.heap.size V1 u → u.cell? ⟨W5.heap.size, 0, none⟩ = some (.int .i64 n) := fun u hu => (HBox.out u (below3 HV1.out hu)).2.1.1
            have sn1 : ∀ u, Below V1.heap.size V1 u → u.cell? ⟨W5.heap.size, 1, none⟩ = some (.slice (some ⟨g2, 0, none⟩) ln.length ln.length) := fun u hu => (HBox.out u (below3 HV1.out hu)).2.1.2
            have sq : ∀ u, Below V1.heap.size V1 u → u.cell? ⟨w.heap.size, 5, none⟩ = some (.int .i64 q) := fun u hu => (HCell.out u (below3 H6.out (below3 HV1.out hu))).2.2.2.2.2
            have hLne : ¬ L = [] := fun e => by rw [e] at hL0; simp at hL0
            have HFN : Hid (blk (atL ln q) = FN) := hFN
            clear hr1 hv1 hL hV1 f0 f1 f2 f3 f4 f5 x0 x1 y0 y1 hFA hHd hinB hg8
            go_wp2
            refine wp_region_ord (S := fun u => Below V1.heap.size V1 u) [(0, true), (1, true), (2, true), (3, true), (4, false), (5, false), (6, true), (7, true), (8, true), (9, true), (10, true), (11, true), (12, true), (13, true), (14, true), (15, true), (16, true), (17, true), (18, true), (19, false), (20, true), (21, true)]
              (by kernel_rfl) rfl (by kernel_rfl) (fun d _ _ _ _ h => by cases d <;> exact h) ((Below.refl _ _).drew) ?_
            simp only [inOrd, List.getElem?_cons_zero, List.getElem?_cons_succ]
            have hX0 : Below V1.heap.size V1 V1.drew := (Below.refl _ _).drew
            refine wpOrd_yield (v := .slice (some ⟨g8, 0, none⟩) L.length c8) rfl (fun u _ => exec_mv rfl rfl) ?_
            simp only [Act.put, List.setIfInBounds_toArray, List.set_cons_succ, List.set_cons_zero]
            refine wpOrd_yield (v := .agg #[.int .i64 n, .slice (some ⟨g1, 0, none⟩) la.length la.length]) rfl (fun u hu => by have := sa0 u hu; have := sa1 u hu; go_simp) ?_
            simp only [Act.put, List.setIfInBounds_toArray, List.set_cons_succ, List.set_cons_zero]
            refine wpOrd_yield (v := .pointer (some ⟨w.heap.size, 5, none⟩)) rfl (fun u hu => by go_simp) ?_
            simp only [Act.put, List.setIfInBounds_toArray, List.set_cons_succ, List.set_cons_zero]
            refine wpOrd_yield (v := .int .i64 q) rfl (fun u hu => by have := sq u hu; go_simp) ?_
            simp only [Act.put, List.setIfInBounds_toArray, List.set_cons_succ, List.set_cons_zero]
            refine wpOrd_call rfl 26 _ _ rfl Try.call26 [.agg #[.int .i64 n, .slice (some ⟨g1, 0, none⟩) la.length la.length], .int .i64 q] rfl ?_
            refine (ba V1.drew hX0).mono ?_
            rintro e X1 ⟨rfl, hx1⟩
            have hX1 : Below V1.heap.size V1 X1 := below3 hX0 hx1
            refine ⟨_, rfl, hX1, ?_⟩
            simp only [Act.put, List.setIfInBounds_toArray, List.set_cons_succ, List.set_cons_zero]
            refine wpOrd_call rfl 25 _ _ rfl Try.call25 [.slice (some ⟨g8, 0, none⟩) L.length c8, .agg FA] rfl ?_
            refine (inn X1 hX1).mono ?_
            rintro e X2 ⟨rfl, hx2⟩
            have hX2 : Below V1.heap.size V1 X2 := below3 hX1 hx2
            refine ⟨_, rfl, hX2, ?_⟩
            simp only [Act.put, List.setIfInBounds_toArray, List.set_cons_succ, List.set_cons_zero]
            refine wpOrd_yield (v := .bool false) rfl (fun u hu => by go_simp) ?_
            simp only [Act.put, List.setIfInBounds_toArray, List.set_cons_succ, List.set_cons_zero]
            refine wpOrd_yield (v := .bool false) rfl (fun u _ => exec_mv rfl rfl) ?_
            simp only [Act.put, List.setIfInBounds_toArray, List.set_cons_succ, List.set_cons_zero]
            refine wpOrd_yield (v := .slice (some ⟨g8, 0, none⟩) L.length c8) rfl (fun u _ => exec_mv rfl rfl) ?_
            simp only [Act.put, List.setIfInBounds_toArray, List.set_cons_succ, List.set_cons_zero]
            refine wpOrd_yield (v := .int .i64 L.length) rfl (fun u hu => by go_simp) ?_
            simp only [Act.put, List.setIfInBounds_toArray, List.set_cons_succ, List.set_cons_zero]
            refine wpOrd_yield (v := .bool false) rfl (fun u hu => by go_simp) ?_
            simp only [Act.put, List.setIfInBounds_toArray, List.set_cons_succ, List.set_cons_zero]
            refine wpOrd_yield (v := .bool false) rfl (fun u hu => by go_simp) ?_
            simp only [Act.put, List.setIfInBounds_toArray, List.set_cons_succ, List.set_cons_zero]
            refine wpOrd_yield (v := .bool false) rfl (fun u _ => exec_mv rfl rfl) ?_
            simp only [Act.put, List.setIfInBounds_toArray, List.set_cons_succ, List.set_cons_zero]
            refine wpOrd_yield (v := .slice (some ⟨g8, 0, none⟩) L.length c8) rfl (fun u _ => exec_mv rfl rfl) ?_
            simp only [Act.put, List.setIfInBounds_toArray, List.set_cons_succ, List.set_cons_zero]
            refine wpOrd_yield (v := .pointer (some ⟨g8, 0, none⟩)) rfl (fun u hu => by go_simp) ?_
            simp only [Act.put, List.setIfInBounds_toArray, List.set_cons_succ, List.set_cons_zero]
            refine wpOrd_yield (v := .agg FN) rfl (fun u hu => exec_load rfl rfl (sH u hu)) ?_
            simp only [Act.put, List.setIfInBounds_toArray, List.set_cons_succ, List.set_cons_zero]
            refine wpOrd_yield (v := .agg #[.int .i64 n, .slice (some ⟨g2, 0, none⟩) ln.length ln.length]) rfl (fun u hu => by have := sn0 u hu; have := sn1 u hu; go_simp) ?_
            simp only [Act.put, List.setIfInBounds_toArray, List.set_cons_succ, List.set_cons_zero]
            refine wpOrd_yield (v := .pointer (some ⟨w.heap.size, 5, none⟩)) rfl (fun u hu => by go_simp) ?_
            simp only [Act.put, List.setIfInBounds_toArray, List.set_cons_succ, List.set_cons_zero]
            refine wpOrd_yield (v := .int .i64 q) rfl (fun u hu => by have := sq u hu; go_simp) ?_
            simp only [Act.put, List.setIfInBounds_toArray, List.set_cons_succ, List.set_cons_zero]
            refine wpOrd_call rfl 26 _ _ rfl Try.call26 [.agg #[.int .i64 n, .slice (some ⟨g2, 0, none⟩) ln.length ln.length], .int .i64 q] rfl ?_
            refine (bn X2 hX2).mono ?_
            rintro e X3 ⟨rfl, hx3⟩
            have hX3 : Below V1.heap.size V1 X3 := below3 hX2 hx3
            refine ⟨_, rfl, hX3, ?_⟩
            simp only [Act.put, List.setIfInBounds_toArray, List.set_cons_succ, List.set_cons_zero]
            refine wpOrd_yield (v := .bool false) rfl (fun u hu => exec_neqS rfl rfl rfl hFN hFN (sameB_self _)) ?_
            simp only [Act.put, List.setIfInBounds_toArray, List.set_cons_succ, List.set_cons_zero]
            refine wpOrd_yield (v := .bool false) rfl (fun u hu => by go_simp) ?_
            simp only [Act.put, List.setIfInBounds_toArray, List.set_cons_succ, List.set_cons_zero]
            refine wpOrd_nil ?_
            have HX : Hid (Below V1.heap.size V1 X3) := hX3
            obtain ⟨f0, f1, f2, f3, f4, f5⟩ := HCell.out X3 (below3 H6.out (below3 HV1.out hX3))
            have HBn : Hid (∀ u, Below V1.heap.size V1 u → Calls Try.prog 26 #[.agg #[.int .i64 n, .slice (some ⟨g2, 0, none⟩) ln.length ln.length], .int .i64 q] u fun e w' => e = .returned (.agg FN) ∧ Below u.heap.size u w') := bn
            clear ba bn inn sH sa0 sa1 sn0 sn1 sq hFN hX0 hX1 hX2 hX3 hx1 hx2 hx3
            go_wp2_with (go_at_call 27; fail)
            have pn := pending_any ops _ co K X3 (by omega) (HO2.out X3 (below3 H6.out (below3 HV1.out HX.out))) lc
            rw [show upTo ops.length K = k by unfold upTo; have := HkK.out; omega] at pn
            refine pn.mono ?_
            clear pn
            rintro e V2 ⟨v2, rfl, hr2, hv2⟩
            obtain ⟨p9, c9, rfl, hp9, _, _⟩ := ints_of_row hr2
            have HV2 : Hid (Below V1.heap.size V1 V2) := below3 HX.out hv2
            have HPd : Hid (pendL (ops.take k) = (List.range (tailR (ops.take k)).length).map fun j => ((sureN (ops.take k) + j : Nat) : Int)) := pendL_tail (tail_kind HOf.out)
            obtain ⟨d, hd⟩ : ∃ d, (tailR (ops.take k)).length = d := ⟨_, rfl⟩
            have hd2 : d ≤ 120 := by
              have := tail_len (ops.take k)
              rw [List.length_take] at this
              omega
            have hPl : (pendL (ops.take k)).length = d := by rw [HPd.out, List.length_map, List.length_range, hd]
            have HPi : Hid (∀ W, Below V2.heap.size V2 W → IntsAt W p9 (pendL (ops.take k))) := fun W hW => hp9.later hW
            rw [hPl]
            clear hr2 hv2 hp9 f0 f1 f2 f3 f4 f5 HX
            go_wp2
            go_loopw [10] (fun s10 wx => ∃ i : Nat, i ≤ L.length ∧ s10 = .int .i64 i ∧ Hid (Below V2.heap.size V2 wx)) (fun s10 _ => L.length - (intOf s10).toNat)
            case atStart => exact ⟨0, by omega, rfl, Below.refl _ _⟩
            case round =>
              obtain ⟨i, hi, rfl, HB⟩ := hrel
              by_cases hi2 : (i : Int) < L.length
              · have hgi : L[i]? = some L[i] := List.getElem?_eq_getElem (by omega)
                have hmem := HSome.out L[i] (List.getElem_mem _)
                have hcx := HCanL.out L[i] (List.getElem_mem _)
                generalize L[i] = x at *
                have HMem : Hid (x = atL ln q ∨ ∃ (j : Nat) (r : Rec), (tailR (ops.take k))[j]? = some r ∧ r.pos = q ∧ r.dat = x) := hmem
                have HCx : Hid (Can x) := hcx
                have hW : Below V1.heap.size V1 wr := below3 HV2.out HB.out
                obtain ⟨FX, hFX⟩ : ∃ FX, blk x = FX := ⟨_, rfl⟩
                have HSX : Hid (∀ u, Below V1.heap.size V1 u → (Instr.loadAt 40 (.pointer (some ⟨g8, i * 1024, none⟩))).run Try.prog u = .ok (.agg FX) u) := fun u hu => by
                  rw [← hFX]
                  exact loadM (HL.out u hu i x hgi)
                have sX : ∀ u, Below wr.heap.size wr u → (Instr.loadAt 40 (.pointer (some ⟨g8, i * 1024, none⟩))).run Try.prog u = .ok (.agg FX) u := fun u hu => HSX.out u (below3 hW hu)
                have sn0 : ∀ u, Below wr.heap.size wr u → u.cell? ⟨W5.heap.size, 0, none⟩ = some (.int .i64 n) := fun u hu => (HBox.out u (below3 HV1.out (below3 hW hu))).2.1.1
                have sn1 : ∀ u, Below wr.heap.size wr u → u.cell? ⟨W5.heap.size, 1, none⟩ = some (.slice (some ⟨g2, 0, none⟩) ln.length ln.length) := fun u hu => (HBox.out u (below3 HV1.out (below3 hW hu))).2.1.2
                have sq : ∀ u, Below wr.heap.size wr u → u.cell? ⟨w.heap.size, 5, none⟩ = some (.int .i64 q) := fun u hu => (HCell.out u (below3 H6.out (below3 HV1.out (below3 hW hu)))).2.2.2.2.2
                have bn : ∀ u, Below wr.heap.size wr u → Calls Try.prog 26 #[.agg #[.int .i64 n, .slice (some ⟨g2, 0, none⟩) ln.length ln.length], .int .i64 q] u fun e w' => e = .returned (.agg FN) ∧ Below u.heap.size u w' := fun u hu => HBn.out u (below3 hW hu)
                have hFN := HFN.out
                obtain ⟨f, hf⟩ : ∃ f, sameB x (atL ln q) = f := ⟨_, rfl⟩
                have HInit : Hid (f = false → x ≠ atL ln q) := fun e z => by
                  rw [z, sameB_self] at hf
                  rw [e] at hf
                  cases hf
                clear hgi hmem hcx
                go_wp2
                refine wp_region_ord (S := fun u => Below wr.heap.size wr u) [(0, true), (1, true), (2, true), (3, true), (4, true), (5, true), (6, true), (7, false), (8, true), (9, true)]
                  (by kernel_rfl) rfl (by kernel_rfl) (fun d _ _ _ _ h => by cases d <;> exact h) ((Below.refl _ _).drew) ?_
                simp only [inOrd, List.getElem?_cons_zero, List.getElem?_cons_succ]
                have hX0 : Below wr.heap.size wr wr.drew := (Below.refl _ _).drew
                refine wpOrd_yield (v := .slice (some ⟨g8, 0, none⟩) L.length c8) rfl (fun u _ => exec_mv rfl rfl) ?_
                simp only [Act.put, List.setIfInBounds_toArray, List.set_cons_succ, List.set_cons_zero]
                refine wpOrd_yield (v := .int .i64 i) rfl (fun u _ => exec_mv rfl rfl) ?_
                simp only [Act.put, List.setIfInBounds_toArray, List.set_cons_succ, List.set_cons_zero]
                refine wpOrd_yield (v := .pointer (some ⟨g8, i * 1024, none⟩)) rfl (fun u hu => by go_simp) ?_
                simp only [Act.put, List.setIfInBounds_toArray, List.set_cons_succ, List.set_cons_zero]
                refine wpOrd_yield (v := .agg FX) rfl (fun u hu => exec_load rfl rfl (sX u hu)) ?_
                simp only [Act.put, List.setIfInBounds_toArray, List.set_cons_succ, List.set_cons_zero]
                refine wpOrd_yield (v := .agg #[.int .i64 n, .slice (some ⟨g2, 0, none⟩) ln.length ln.length]) rfl (fun u hu => by have := sn0 u hu; have := sn1 u hu; go_simp) ?_
                simp only [Act.put, List.setIfInBounds_toArray, List.set_cons_succ, List.set_cons_zero]
                refine wpOrd_yield (v := .pointer (some ⟨w.heap.size, 5, none⟩)) rfl (fun u hu => by go_simp) ?_
                simp only [Act.put, List.setIfInBounds_toArray, List.set_cons_succ, List.set_cons_zero]
                refine wpOrd_yield (v := .int .i64 q) rfl (fun u hu => by have := sq u hu; go_simp) ?_
                simp only [Act.put, List.setIfInBounds_toArray, List.set_cons_succ, List.set_cons_zero]
                refine wpOrd_call rfl 26 _ _ rfl Try.call26 [.agg #[.int .i64 n, .slice (some ⟨g2, 0, none⟩) ln.length ln.length], .int .i64 q] rfl ?_
                refine (bn wr.drew hX0).mono ?_
                rintro e X1 ⟨rfl, hx1⟩
                have hX1 : Below wr.heap.size wr X1 := below3 hX0 hx1
                refine ⟨_, rfl, hX1, ?_⟩
                simp only [Act.put, List.setIfInBounds_toArray, List.set_cons_succ, List.set_cons_zero]
                refine wpOrd_yield (v := .bool f) rfl (fun u hu => exec_eq40 rfl rfl rfl hFX hFN hf) ?_
                simp only [Act.put, List.setIfInBounds_toArray, List.set_cons_succ, List.set_cons_zero]
                refine wpOrd_yield (v := .bool f) rfl (fun u hu => by go_simp) ?_
                simp only [Act.put, List.setIfInBounds_toArray, List.set_cons_succ, List.set_cons_zero]
                refine wpOrd_nil ?_
                have HB3 : Hid (Below V2.heap.size V2 X1) := below3 HB.out hX1
                clear sX sn0 sn1 sq bn hX0 hX1 hx1 hW hFN hf HB
                go_wp2
                go_loopw [11, 12] (fun s11 s12 wx => ∃ (b : Bool) (j : Nat), j ≤ d ∧ s11 = .bool b ∧ s12 = .int .i64 j ∧ Hid (b = false → x ≠ atL ln q ∧ ∀ (j' : Nat) (r : Rec), j' < j → (tailR (ops.take k))[j']? = some r → r.pos = q → r.dat ≠ x) ∧ Hid (Below V2.heap.size V2 wx)) (fun _ s12 _ => d - (intOf s12).toNat)
                case atStart => exact ⟨f, 0, by omega, rfl, rfl, fun e => ⟨HInit.out e, fun j' r h => by omega⟩, HB3.out⟩
                case round =>
                  obtain ⟨b, j, hj, rfl, rfl, HNo, HBj⟩ := hrel
                  clear HInit HB3
                  cases b
                  · by_cases hj2 : (j : Int) < d
                    · skip
                      have hgj : (tailR (ops.take k))[j]? = some (tailR (ops.take k))[j] := List.getElem?_eq_getElem (by omega)
                      have htg := hgj
                      rw [tail_get] at htg
                      obtain ⟨m, hm⟩ : ∃ m, sureN (ops.take k) + j = m := ⟨_, rfl⟩
                      rw [hm] at htg
                      have hml : m < ops.length := by
                        have := (List.getElem?_eq_some_iff.1 htg).1
                        rw [List.length_take] at this
                        omega
                      have hom : ops[m]? = some (tailR (ops.take k))[j] := by
                        rw [List.getElem?_take] at htg
                        split at htg
                        · exact htg
                        · cases htg
                      generalize (tailR (ops.take k))[j] = r at *
                      have hPj : (pendL (ops.take k))[j]? = some (m : Int) := by
                        rw [HPd.out, List.getElem?_map, List.getElem?_range (by omega), ← hm]
                        rfl
                      have HOne : Hid (∀ lk, IsImg n (afterC l (ops.take k) ((List.replicate d false).set j true)) lk → r.pos = q → atL lk q = r.dat) := fun lk h hq => some_one HCl.out HCf.out HOf.out (by omega) hgj h q hq
                      have HNx : Hid (∀ b2 : Bool, (b2 = false → r.pos = q → r.dat ≠ x) → b2 = false → x ≠ atL ln q ∧ ∀ (j' : Nat) (r' : Rec), j' < j + 1 → (tailR (ops.take k))[j']? = some r' → r'.pos = q → r'.dat ≠ x) := fun b2 h e => by
                        obtain ⟨n1, n2⟩ := HNo.out rfl
                        refine ⟨n1, fun j' r' hj' h1 h2 => ?_⟩
                        rcases Nat.lt_or_ge j' j with z | z
                        · exact n2 j' r' z h1 h2
                        · obtain rfl : j' = j := by omega
                          rw [hgj] at h1
                          injection h1 with h1
                          subst h1
                          exact h e h2
                      have HCr1 : Hid (Can r.dat) := HCr.out r (List.mem_of_getElem? hom)
                      have hBV := below3 HV2.out HBj.out
                      obtain ⟨b9, o9, hp9, hlt9, hC9⟩ := HPi.out V2 (Below.refl _ _) (by omega)
                      subst hp9
                      obtain ⟨bo', oo', hpo, hlto, hRo⟩ := HO2.out W2 (Below.refl _ _) (by omega)
                      injection hpo with hpo
                      injection hpo with e1 e2
                      subst e1 e2
                      obtain ⟨R0, hR0⟩ : ∃ R0, ((List.replicate d false).map Value.bool).toArray = R0 := ⟨_, rfl⟩
                      obtain ⟨R1, hR1⟩ : ∃ R1, (((List.replicate d false).set j true).map Value.bool).toArray = R1 := ⟨_, rfl⟩
                      have hmk : ∀ u : World, (Instr.makeSlice 26 (.int .i64 (d : Int)) (.int .i64 (d : Int))).run Try.prog u = .ok (.slice (some ⟨u.heap.size, 0, none⟩) d d) (u.alloc (.cells R0 4)) := fun u => by rw [← hR0]; exact run_make26 u d (by omega)
                      have hrU := heap_alloc_new wr (.cells R0 4)
                      have ck : (wr.alloc (.cells R0 4)).cell? ⟨wr.heap.size, j, none⟩ = some (.bool false) := by
                        rw [Joins.cell_of_block hrU j, ← hR0, List.getElem?_toArray, List.getElem?_map, List.getElem?_replicate, if_pos (by omega)]
                        rfl
                      have fk : (wr.alloc (.cells R0 4)).frozen? ⟨wr.heap.size, j, none⟩ = false := Joins.unfrozen_of_block hrU j
                      have hrU2 := heap_alloc_new wr (.cells (R0.setIfInBounds j (.bool true)) 4)
                      have hR01 : R0.setIfInBounds j (.bool true) = R1 := by
                        rw [← hR0, ← hR1, List.setIfInBounds_toArray, List.map_set]
                      have hbU2 := below_new wr (.cells (R0.setIfInBounds j (.bool true)) 4)
                      obtain ⟨U2, hU2⟩ : ∃ U2, U2 = wr.alloc (.cells (R0.setIfInBounds j (.bool true)) 4) := ⟨_, rfl⟩
                      have HU2 : Hid (U2 = wr.alloc (.cells (R0.setIfInBounds j (.bool true)) 4)) := hU2
                      rw [← hU2] at hrU2 hbU2
                      have hbl : BoolsAt U2 (.slice (some ⟨wr.heap.size, 0, none⟩) d d) ((List.replicate d false).set j true) := by
                        have := bools_row (l := (List.replicate d false).set j true) (by rw [hR1, ← hR01]; exact hrU2)
                        rwa [show ((List.replicate d false).set j true).length = d by simp] at this
                      have hV2U : Below V2.heap.size V2 U2 := below3 HBj.out hbU2
                      have h2U : Below W2.heap.size W2 U2 := below3 H6.out (below3 HV1.out (below3 HV2.out hV2U))
                      have hwwr : w.heap.size < wr.heap.size := Nat.lt_of_lt_of_le hw2 (below3 H6.out (below3 HV1.out hBV)).size
                      have HBl : Hid (BoolsAt U2 (.slice (some ⟨wr.heap.size, 0, none⟩) d d) ((List.replicate d false).set j true)) := hbl
                      obtain ⟨z0, z1, z2, z3, z4, z5⟩ := HCell.out wr (below3 H6.out (below3 HV1.out hBV))
                      have HSp : Hid (∀ u, Below V2.heap.size V2 u → u.cell? ⟨bo, oo + m * 1026 + 1, none⟩ = some (.int .i64 r.pos) ∧ u.cell? ⟨b9, o9 + j, none⟩ = some (.int .i64 (m : Nat))) := fun u hu =>
                        ⟨((hRo.later (below3 H6.out (below3 HV1.out (below3 HV2.out hu))) hlto) m r hom).2.1, (hu.cell (p := ⟨b9, o9 + j, none⟩) hlt9).trans (hC9 j _ hPj)⟩
                      clear hgj htg hm hPj hrU hR01 hrU2 hbl hC9 hRo hbU2 hU2 HNo hR0 hR1
                      go_wp2_with (go_at_call 21; fail)
                      rw [← HU2.out]
                      have af := after_ok n l p cp ops _ co k ((List.replicate d false).set j true) (some ⟨wr.heap.size, 0, none⟩) d U2 (by omega) (HI2.out _ h2U) (by omega) (HO2.out _ h2U) lc (by simp; omega) (by rw [show ((List.replicate d false).set j true).length = d by simp]; exact HBl.out) HP.out HCl.out HCr.out
                      rw [HkK.out, show ((List.replicate d false).set j true).length = d by simp] at af
                      refine af.mono ?_
                      clear af
                      rintro e U3 ⟨g3, lk, rfl, hIk, hr3, hg3, hb3⟩
                      have hlk := img_len HN.out hIk
                      have hck := at_can hIk.sound q
                      have HOk : Hid (r.pos = q → atL lk q = r.dat) := HOne.out lk hIk
                      obtain ⟨U4, hU4⟩ : ∃ U4, U4 = U3.alloc (.cells #[.int .i64 n, .slice (some ⟨g3, 0, none⟩) lk.length lk.length] 24) := ⟨_, rfl⟩
                      have HU4 : Hid (U4 = U3.alloc (.cells #[.int .i64 n, .slice (some ⟨g3, 0, none⟩) lk.length lk.length] 24)) := hU4
                      have hb4 := below_new U3 (.cells #[.int .i64 n, .slice (some ⟨g3, 0, none⟩) lk.length lk.length] 24)
                      have hK4 := heap_alloc_new U3 (.cells #[.int .i64 n, .slice (some ⟨g3, 0, none⟩) lk.length lk.length] 24)
                      rw [← hU4] at hb4 hK4
                      have hr4 := heap_kept hr3 hb4
                      have hV4 : Below V2.heap.size V2 U4 := below3 hV2U (below3 hb3 hb4)
                      have HV4 : Hid (Below V2.heap.size V2 U4) := hV4
                      have hk34 : U3.heap.size < U4.heap.size := (Array.getElem?_eq_some_iff.1 hK4).1
                      have so : ∀ u, Below U4.heap.size U4 u → u.cell? ⟨w.heap.size, 2, none⟩ = some (.slice (some ⟨bo, oo, none⟩) ops.length co) := fun u hu => (HCell.out u (below3 H6.out (below3 HV1.out (below3 HV2.out (below3 HV4.out hu))))).2.2.1
                      have sq : ∀ u, Below U4.heap.size U4 u → u.cell? ⟨w.heap.size, 5, none⟩ = some (.int .i64 q) := fun u hu => (HCell.out u (below3 H6.out (below3 HV1.out (below3 HV2.out (below3 HV4.out hu))))).2.2.2.2.2
                      have sm : ∀ u, Below U4.heap.size U4 u → u.cell? ⟨b9, o9 + j, none⟩ = some (.int .i64 (m : Nat)) := fun u hu => (HSp.out u (below3 HV4.out hu)).2
                      have sp : ∀ u, Below U4.heap.size U4 u → u.cell? ⟨bo, oo + m * 1026 + 1, none⟩ = some (.int .i64 r.pos) := fun u hu => (HSp.out u (below3 HV4.out hu)).1
                      have sk0 : ∀ u, Below U4.heap.size U4 u → u.cell? ⟨U3.heap.size, 0, none⟩ = some (.int .i64 n) := fun u hu => Joins.cell_of_block (heap_kept hK4 hu) 0
                      have sk1 : ∀ u, Below U4.heap.size U4 u → u.cell? ⟨U3.heap.size, 1, none⟩ = some (.slice (some ⟨g3, 0, none⟩) lk.length lk.length) := fun u hu => Joins.cell_of_block (heap_kept hK4 hu) 1
                      have sX : ∀ u, Below U4.heap.size U4 u → (Instr.loadAt 40 (.pointer (some ⟨g8, i * 1024, none⟩))).run Try.prog u = .ok (.agg FX) u := fun u hu => HSX.out u (below3 HV2.out (below3 HV4.out hu))
                      obtain ⟨FK, hFK⟩ : ∃ FK, blk (atL lk q) = FK := ⟨_, rfl⟩
                      have bk : ∀ u, Below U4.heap.size U4 u → Calls Try.prog 26 #[.agg #[.int .i64 n, .slice (some ⟨g3, 0, none⟩) lk.length lk.length], .int .i64 q] u fun e w' => e = .returned (.agg FK) ∧ Below u.heap.size u w' := fun u hu => by
                        rw [← hFK]
                        exact blockAt_any n lk (some ⟨g3, 0, none⟩) lk.length q u (by omega) (img_row (heap_kept hr4 hu))
                      clear hb3 hb4 hK4 hr3 hr4 hV4 hV2U h2U hIk hg3 hck ck fk hmk z0 z1 z2 z3 z4 z5 hU4 HU2 hom
                      go_wp2
                      rw [← HU4.out]
                      by_cases hpq : r.pos = q
                      · obtain ⟨b2, hb2⟩ : ∃ b2, sameB (atL lk q) x = b2 := ⟨_, rfl⟩
                        have hbt : b2 = false → r.pos = q → r.dat ≠ x := fun e h1 h2 => by
                          rw [HOk.out h1, h2, sameB_self, e] at hb2
                          cases hb2
                        have gpq : decide (r.pos = q) = true := decide_eq_true hpq
                        refine wp_region_ord (S := fun u => Below U4.heap.size U4 u) [(0, true), (1, true), (2, true), (3, true), (4, true), (5, true), (6, true), (7, true), (8, true), (9, true), (10, true), (11, true), (12, true), (13, true), (14, true), (15, true), (16, true), (17, true), (18, true), (19, true), (21, true), (22, true), (23, true), (24, true), (20, false), (25, true), (26, true), (27, true)]
                          (by kernel_rfl) rfl (by kernel_rfl) (fun d _ _ _ _ h => by cases d <;> exact h) ((Below.refl _ _).drew) ?_
                        simp only [inOrd, List.getElem?_cons_zero, List.getElem?_cons_succ]
                        have hX0 : Below U4.heap.size U4 U4.drew := (Below.refl _ _).drew
                        refine wpOrd_yield (v := .int .i64 0) rfl (fun u _ => exec_mv rfl rfl) ?_
                        simp only [Act.put, List.setIfInBounds_toArray, List.set_cons_succ, List.set_cons_zero]
                        refine wpOrd_yield (v := .bool true) rfl (fun u hu => by go_simp) ?_
                        simp only [Act.put, List.setIfInBounds_toArray, List.set_cons_succ, List.set_cons_zero]
                        refine wpOrd_yield (v := .bool true) rfl (fun u _ => exec_mv rfl rfl) ?_
                        simp only [Act.put, List.setIfInBounds_toArray, List.set_cons_succ, List.set_cons_zero]
                        refine wpOrd_yield (v := .pointer (some ⟨w.heap.size, 2, none⟩)) rfl (fun u hu => by go_simp) ?_
                        simp only [Act.put, List.setIfInBounds_toArray, List.set_cons_succ, List.set_cons_zero]
                        refine wpOrd_yield (v := .slice (some ⟨bo, oo, none⟩) ops.length co) rfl (fun u hu => by have := so u hu; go_simp) ?_
                        simp only [Act.put, List.setIfInBounds_toArray, List.set_cons_succ, List.set_cons_zero]
                        refine wpOrd_yield (v := .slice (some ⟨b9, o9, none⟩) d c9) rfl (fun u _ => exec_mv rfl rfl) ?_
                        simp only [Act.put, List.setIfInBounds_toArray, List.set_cons_succ, List.set_cons_zero]
                        refine wpOrd_yield (v := .int .i64 j) rfl (fun u _ => exec_mv rfl rfl) ?_
                        simp only [Act.put, List.setIfInBounds_toArray, List.set_cons_succ, List.set_cons_zero]
                        refine wpOrd_yield (v := .pointer (some ⟨b9, o9 + j, none⟩)) rfl (fun u hu => by go_simp) ?_
                        simp only [Act.put, List.setIfInBounds_toArray, List.set_cons_succ, List.set_cons_zero]
                        refine wpOrd_yield (v := .int .i64 (m : Nat)) rfl (fun u hu => by have := sm u hu; go_simp) ?_
                        simp only [Act.put, List.setIfInBounds_toArray, List.set_cons_succ, List.set_cons_zero]
                        refine wpOrd_yield (v := .pointer (some ⟨bo, oo + m * 1026, none⟩)) rfl (fun u hu => by go_simp) ?_
                        simp only [Act.put, List.setIfInBounds_toArray, List.set_cons_succ, List.set_cons_zero]
                        refine wpOrd_yield (v := .pointer (some ⟨bo, oo + m * 1026 + 1, none⟩)) rfl (fun u hu => by go_simp) ?_
                        simp only [Act.put, List.setIfInBounds_toArray, List.set_cons_succ, List.set_cons_zero]
                        refine wpOrd_yield (v := .int .i64 r.pos) rfl (fun u hu => by have := sp u hu; go_simp) ?_
                        simp only [Act.put, List.setIfInBounds_toArray, List.set_cons_succ, List.set_cons_zero]
                        refine wpOrd_yield (v := .pointer (some ⟨w.heap.size, 5, none⟩)) rfl (fun u hu => by go_simp) ?_
                        simp only [Act.put, List.setIfInBounds_toArray, List.set_cons_succ, List.set_cons_zero]
                        refine wpOrd_yield (v := .int .i64 q) rfl (fun u hu => by have := sq u hu; go_simp) ?_
                        simp only [Act.put, List.setIfInBounds_toArray, List.set_cons_succ, List.set_cons_zero]
                        refine wpOrd_yield (v := .bool true) rfl (fun u hu => by go_simp) ?_
                        simp only [Act.put, List.setIfInBounds_toArray, List.set_cons_succ, List.set_cons_zero]
                        refine wpOrd_yield (v := .bool true) rfl (fun u hu => by go_simp) ?_
                        simp only [Act.put, List.setIfInBounds_toArray, List.set_cons_succ, List.set_cons_zero]
                        refine wpOrd_yield (v := .bool true) rfl (fun u _ => exec_mv rfl rfl) ?_
                        simp only [Act.put, List.setIfInBounds_toArray, List.set_cons_succ, List.set_cons_zero]
                        refine wpOrd_yield (v := .agg #[.int .i64 n, .slice (some ⟨g3, 0, none⟩) lk.length lk.length]) rfl (fun u hu => by have := sk0 u hu; have := sk1 u hu; go_simp) ?_
                        simp only [Act.put, List.setIfInBounds_toArray, List.set_cons_succ, List.set_cons_zero]
                        refine wpOrd_yield (v := .pointer (some ⟨w.heap.size, 5, none⟩)) rfl (fun u hu => by go_simp) ?_
                        simp only [Act.put, List.setIfInBounds_toArray, List.set_cons_succ, List.set_cons_zero]
                        refine wpOrd_yield (v := .int .i64 q) rfl (fun u hu => by have := sq u hu; go_simp) ?_
                        simp only [Act.put, List.setIfInBounds_toArray, List.set_cons_succ, List.set_cons_zero]
                        refine wpOrd_yield (v := .slice (some ⟨g8, 0, none⟩) L.length c8) rfl (fun u _ => exec_mv rfl rfl) ?_
                        simp only [Act.put, List.setIfInBounds_toArray, List.set_cons_succ, List.set_cons_zero]
                        refine wpOrd_yield (v := .int .i64 i) rfl (fun u _ => exec_mv rfl rfl) ?_
                        simp only [Act.put, List.setIfInBounds_toArray, List.set_cons_succ, List.set_cons_zero]
                        refine wpOrd_yield (v := .pointer (some ⟨g8, i * 1024, none⟩)) rfl (fun u hu => by go_simp) ?_
                        simp only [Act.put, List.setIfInBounds_toArray, List.set_cons_succ, List.set_cons_zero]
                        refine wpOrd_yield (v := .agg FX) rfl (fun u hu => exec_load rfl rfl (sX u hu)) ?_
                        simp only [Act.put, List.setIfInBounds_toArray, List.set_cons_succ, List.set_cons_zero]
                        refine wpOrd_call rfl 26 _ _ rfl Try.call26 [.agg #[.int .i64 n, .slice (some ⟨g3, 0, none⟩) lk.length lk.length], .int .i64 q] rfl ?_
                        refine (bk U4.drew hX0).mono ?_
                        rintro e X1 ⟨rfl, hx1⟩
                        have hX1 : Below U4.heap.size U4 X1 := below3 hX0 hx1
                        refine ⟨_, rfl, hX1, ?_⟩
                        simp only [Act.put, List.setIfInBounds_toArray, List.set_cons_succ, List.set_cons_zero]
                        refine wpOrd_yield (v := .bool b2) rfl (fun u hu => exec_eq40 rfl rfl rfl hFK hFX hb2) ?_
                        simp only [Act.put, List.setIfInBounds_toArray, List.set_cons_succ, List.set_cons_zero]
                        refine wpOrd_yield (v := .bool b2) rfl (fun u hu => by go_simp) ?_
                        simp only [Act.put, List.setIfInBounds_toArray, List.set_cons_succ, List.set_cons_zero]
                        refine wpOrd_yield (v := .bool b2) rfl (fun u hu => by go_simp) ?_
                        simp only [Act.put, List.setIfInBounds_toArray, List.set_cons_succ, List.set_cons_zero]
                        refine wpOrd_nil ?_
                        have HX : Hid (Below V2.heap.size V2 X1) := below3 HV4.out hX1
                        have HBt : Hid (b2 = false → r.pos = q → r.dat ≠ x) := hbt
                        clear so sq sm sp sk0 sk1 sX bk hX0 hX1 hx1 hb2 hbt hFK
                        go_wp2
                        exact ⟨⟨b2, j + 1, by omega, rfl, by go_num, HNx.out b2 HBt.out, HX.out⟩, by simp [intOf]; omega⟩
                      · have gpq : decide (r.pos = q) = false := decide_eq_false hpq
                        refine wp_region_ord (S := fun u => Below U4.heap.size U4 u) [(0, true), (1, true), (2, true), (3, true), (4, true), (5, true), (6, true), (7, true), (8, true), (9, true), (10, true), (11, true), (12, true), (13, true), (14, true), (15, true), (16, true), (17, true), (18, true), (19, true), (21, true), (22, true), (23, true), (24, true), (20, false), (25, true), (26, true), (27, true)]
                          (by kernel_rfl) rfl (by kernel_rfl) (fun d _ _ _ _ h => by cases d <;> exact h) ((Below.refl _ _).drew) ?_
                        simp only [inOrd, List.getElem?_cons_zero, List.getElem?_cons_succ]
                        have hX0 : Below U4.heap.size U4 U4.drew := (Below.refl _ _).drew
                        refine wpOrd_yield (v := .int .i64 0) rfl (fun u _ => exec_mv rfl rfl) ?_
                        simp only [Act.put, List.setIfInBounds_toArray, List.set_cons_succ, List.set_cons_zero]
                        refine wpOrd_yield (v := .bool true) rfl (fun u hu => by go_simp) ?_
                        simp only [Act.put, List.setIfInBounds_toArray, List.set_cons_succ, List.set_cons_zero]
                        refine wpOrd_yield (v := .bool true) rfl (fun u _ => exec_mv rfl rfl) ?_
                        simp only [Act.put, List.setIfInBounds_toArray, List.set_cons_succ, List.set_cons_zero]
                        refine wpOrd_yield (v := .pointer (some ⟨w.heap.size, 2, none⟩)) rfl (fun u hu => by go_simp) ?_
                        simp only [Act.put, List.setIfInBounds_toArray, List.set_cons_succ, List.set_cons_zero]
                        refine wpOrd_yield (v := .slice (some ⟨bo, oo, none⟩) ops.length co) rfl (fun u hu => by have := so u hu; go_simp) ?_
                        simp only [Act.put, List.setIfInBounds_toArray, List.set_cons_succ, List.set_cons_zero]
                        refine wpOrd_yield (v := .slice (some ⟨b9, o9, none⟩) d c9) rfl (fun u _ => exec_mv rfl rfl) ?_
                        simp only [Act.put, List.setIfInBounds_toArray, List.set_cons_succ, List.set_cons_zero]
                        refine wpOrd_yield (v := .int .i64 j) rfl (fun u _ => exec_mv rfl rfl) ?_
                        simp only [Act.put, List.setIfInBounds_toArray, List.set_cons_succ, List.set_cons_zero]
                        refine wpOrd_yield (v := .pointer (some ⟨b9, o9 + j, none⟩)) rfl (fun u hu => by go_simp) ?_
                        simp only [Act.put, List.setIfInBounds_toArray, List.set_cons_succ, List.set_cons_zero]
                        refine wpOrd_yield (v := .int .i64 (m : Nat)) rfl (fun u hu => by have := sm u hu; go_simp) ?_
                        simp only [Act.put, List.setIfInBounds_toArray, List.set_cons_succ, List.set_cons_zero]
                        refine wpOrd_yield (v := .pointer (some ⟨bo, oo + m * 1026, none⟩)) rfl (fun u hu => by go_simp) ?_
                        simp only [Act.put, List.setIfInBounds_toArray, List.set_cons_succ, List.set_cons_zero]
                        refine wpOrd_yield (v := .pointer (some ⟨bo, oo + m * 1026 + 1, none⟩)) rfl (fun u hu => by go_simp) ?_
                        simp only [Act.put, List.setIfInBounds_toArray, List.set_cons_succ, List.set_cons_zero]
                        refine wpOrd_yield (v := .int .i64 r.pos) rfl (fun u hu => by have := sp u hu; go_simp) ?_
                        simp only [Act.put, List.setIfInBounds_toArray, List.set_cons_succ, List.set_cons_zero]
                        refine wpOrd_yield (v := .pointer (some ⟨w.heap.size, 5, none⟩)) rfl (fun u hu => by go_simp) ?_
                        simp only [Act.put, List.setIfInBounds_toArray, List.set_cons_succ, List.set_cons_zero]
                        refine wpOrd_yield (v := .int .i64 q) rfl (fun u hu => by have := sq u hu; go_simp) ?_
                        simp only [Act.put, List.setIfInBounds_toArray, List.set_cons_succ, List.set_cons_zero]
                        refine wpOrd_yield (v := .bool false) rfl (fun u hu => by go_simp) ?_
                        simp only [Act.put, List.setIfInBounds_toArray, List.set_cons_succ, List.set_cons_zero]
                        refine wpOrd_yield (v := .bool false) rfl (fun u hu => by go_simp) ?_
                        simp only [Act.put, List.setIfInBounds_toArray, List.set_cons_succ, List.set_cons_zero]
                        refine wpOrd_yield (v := .bool false) rfl (fun u _ => exec_mv rfl rfl) ?_
                        simp only [Act.put, List.setIfInBounds_toArray, List.set_cons_succ, List.set_cons_zero]
                        refine wpOrd_skip hX0 rfl ?_
                        simp only [Act.put, List.setIfInBounds_toArray, List.set_cons_succ, List.set_cons_zero]
                        refine wpOrd_skip hX0 rfl ?_
                        simp only [Act.put, List.setIfInBounds_toArray, List.set_cons_succ, List.set_cons_zero]
                        refine wpOrd_skip hX0 rfl ?_
                        simp only [Act.put, List.setIfInBounds_toArray, List.set_cons_succ, List.set_cons_zero]
                        refine wpOrd_skip hX0 rfl ?_
                        simp only [Act.put, List.setIfInBounds_toArray, List.set_cons_succ, List.set_cons_zero]
                        refine wpOrd_skip hX0 rfl ?_
                        simp only [Act.put, List.setIfInBounds_toArray, List.set_cons_succ, List.set_cons_zero]
                        refine wpOrd_skip hX0 rfl ?_
                        simp only [Act.put, List.setIfInBounds_toArray, List.set_cons_succ, List.set_cons_zero]
                        refine wpOrd_skip hX0 rfl ?_
                        simp only [Act.put, List.setIfInBounds_toArray, List.set_cons_succ, List.set_cons_zero]
                        refine wpOrd_skip hX0 rfl ?_
                        simp only [Act.put, List.setIfInBounds_toArray, List.set_cons_succ, List.set_cons_zero]
                        refine wpOrd_skip hX0 rfl ?_
                        simp only [Act.put, List.setIfInBounds_toArray, List.set_cons_succ, List.set_cons_zero]
                        refine wpOrd_yield (v := .bool false) rfl (fun u hu => by go_simp) ?_
                        simp only [Act.put, List.setIfInBounds_toArray, List.set_cons_succ, List.set_cons_zero]
                        refine wpOrd_yield (v := .bool false) rfl (fun u hu => by go_simp) ?_
                        simp only [Act.put, List.setIfInBounds_toArray, List.set_cons_succ, List.set_cons_zero]
                        refine wpOrd_nil ?_
                        have HX : Hid (Below V2.heap.size V2 U4.drew) := below3 HV4.out hX0
                        have HPq : Hid (¬ r.pos = q) := hpq
                        clear so sq sm sp sk0 sk1 sX bk hX0 hFK
                        generalize U4.drew = U5 at *
                        go_wp2
                        exact ⟨⟨false, j + 1, by omega, rfl, by go_num, HNx.out false (fun _ h => absurd h HPq.out), HX.out⟩, by simp [intOf]; omega⟩
                    · exfalso
                      obtain ⟨n1, n2⟩ := HNo.out rfl
                      rcases HMem.out with h | ⟨j', r, h1, h2, h3⟩
                      · exact n1 h
                      · exact n2 j' r (by have := (List.getElem?_eq_some_iff.1 h1).1; omega) h1 h2 h3
                  · have hBw := below3 (below3 HB2.out (below3 H6.out HV1.out)) HV2.out
                    by_cases hj2 : (j : Int) < d
                    · go_wp2
                      exact ⟨⟨i + 1, by omega, by go_num, HBj.out⟩, by simp [intOf]; omega⟩
                    · go_wp2
                      exact ⟨⟨i + 1, by omega, by go_num, HBj.out⟩, by simp [intOf]; omega⟩
              · go_wp2
                go_ret
                exact ⟨rfl, below3 HB2.out (below3 H6.out (below3 HV1.out (below3 HV2.out HB.out)))⟩
          · refine (block_bad n l p cp ops _ co K q W7 (by omega) (HI2.out _ (below3 H6.out h7)) (by omega) (HO2.out _ (below3 H6.out h7)) (.inr (by omega))).mono ?_
            rintro e V1 ⟨rfl, hv1⟩
            have hV1 := below3 h7 hv1
            obtain ⟨z0, z1, z2, z3, z4, z5⟩ := HCell.out V1 (below3 H6.out hV1)
            have HV1 : Hid (Below W6.heap.size W6 V1) := hV1
            clear f0 f1 f2 f3 f4 f5 x0 x1 y0 y1 hv1 hV1
            by_cases hq0 : q < 0
            · go_wp2
              go_ret
              exact ⟨rfl, below3 HB2.out (below3 H6.out HV1.out)⟩
            · have hqn : q ≥ n := by omega
              go_wp2
              go_ret
              exact ⟨rfl, below3 HB2.out (below3 H6.out HV1.out)⟩
      · go_wp2_with (go_at_call 24; fail)
        by_cases hq : 0 ≤ q ∧ q < n
        · have bo := block_ok n l p cp ops _ co k q W7 (by omega) (HI2.out _ (below3 H6.out h7)) (by omega) (HO2.out _ (below3 H6.out h7)) lc HP.out hq HCl.out HCr.out
          rw [HkK.out] at bo
          refine bo.mono ?_
          clear bo
          rintro e V1 ⟨v1, rfl, hr1, hv1⟩
          have hV1 := below3 h7 hv1
          have hbl := blockL_len HOf.out l q
          obtain ⟨t0, ht0⟩ := some_head HCl.out HCf.out HOf.out HIn.out q
          have HCanL : Hid (∀ x ∈ blockL l (ops.take k) q, Can x) := some_can HCl.out HCf.out HOf.out q
          have hinB : inB (blockL l (ops.take k) q) (atL la q) = true := (inB_mem HCanL.out (at_can HIa.out.sound q)).2 (some_in HCl.out HCf.out HOf.out HIa.out q)
          have HSome : Hid (∀ x ∈ blockL l (ops.take k) q, x = atL ln q ∨ ∃ (j : Nat) (r : Rec), (tailR (ops.take k))[j]? = some r ∧ r.pos = q ∧ r.dat = x) := fun x hx => some_of HCl.out HCf.out HOf.out HIn.out q hx
          have hHd : (blockL l (ops.take k) q)[0]? = some (atL ln q) := by rw [ht0]; rfl
          have hL0 : 0 < (blockL l (ops.take k) q).length := by rw [ht0]; simp
          have hbl2 : (blockL l (ops.take k) q).length ≤ 121 := by rw [List.length_take] at hbl; omega
          clear ht0 hbl
          generalize blockL l (ops.take k) q = L at *
          obtain ⟨g8, c8, rfl, hg8, _, hc8, hL⟩ := blks_own hr1 hL0
          have HL : Hid (∀ W, Below V1.heap.size V1 W → ∀ j x, L[j]? = some x → BlkAt W g8 (j * 1024) x) := fun W hW j x hx => (hL j x hx).kept (hW.block g8 hg8)
          have H8 : Hid (∀ W, Below V1.heap.size V1 W → g8 < W.heap.size) := fun W hW => Nat.lt_of_lt_of_le hg8 hW.size
          have HV1 : Hid (Below W6.heap.size W6 V1) := hV1
          obtain ⟨FA, hFA⟩ : ∃ FA, blk (atL la q) = FA := ⟨_, rfl⟩
          obtain ⟨FN, hFN⟩ : ∃ FN, blk (atL ln q) = FN := ⟨_, rfl⟩
          have ba : ∀ u, Below V1.heap.size V1 u → Calls Try.prog 26 #[.agg #[.int .i64 n, .slice (some ⟨g1, 0, none⟩) la.length la.length], .int .i64 q] u fun e w' => e = .returned (.agg FA) ∧ Below u.heap.size u w' := fun u hu => by
            rw [← hFA]
            exact blockAt_any n la (some ⟨g1, 0, none⟩) la.length q u (by omega) (HBox.out u (below3 HV1.out hu)).2.2.1
          have bn : ∀ u, Below V1.heap.size V1 u → Calls Try.prog 26 #[.agg #[.int .i64 n, .slice (some ⟨g2, 0, none⟩) ln.length ln.length], .int .i64 q] u fun e w' => e = .returned (.agg FN) ∧ Below u.heap.size u w' := fun u hu => by
            rw [← hFN]
            exact blockAt_any n ln (some ⟨g2, 0, none⟩) ln.length q u (by omega) (HBox.out u (below3 HV1.out hu)).2.2.2
          have inn : ∀ u, Below V1.heap.size V1 u → Calls Try.prog 25 #[.slice (some ⟨g8, 0, none⟩) L.length c8, .agg FA] u fun e w' => e = .returned (.bool true) ∧ Below u.heap.size u w' := fun u hu => by
            have := in_any L g8 c8 (atL la q) u (by omega) (H8.out u hu) (HL.out u hu)
            rwa [hinB, hFA] at this
          have sH : ∀ u, Below V1.heap.size V1 u → (Instr.loadAt 40 (.pointer (some ⟨g8, 0, none⟩))).run Try.prog u = .ok (.agg FN) u := fun u hu => by
            have := HL.out u hu 0 _ hHd
            rw [Nat.zero_mul] at this
            rw [← hFN]
            exact loadM this
          have sa0 : ∀ u, Below V1.heap.size V1 u → u.cell? ⟨W3.heap.size, 0, none⟩ = some (.int .i64 n) := fun u hu => (HBox.out u (below3 HV1.out hu)).1.1
          have sa1 : ∀ u, Below V1.heap.size V1 u → u.cell? ⟨W3.heap.size, 1, none⟩ = some (.slice (some ⟨g1, 0, none⟩) la.length la.length) := fun u hu => (HBox.out u (below3 HV1.out hu)).1.2
          have sn0 : ∀ u, Below V1.heap.size V1 u → u.cell? ⟨W5.heap.size, 0, none⟩ = some (.int .i64 n) := fun u hu => (HBox.out u (below3 HV1.out hu)).2.1.1
          have sn1 : ∀ u, Below V1.heap.size V1 u → u.cell? ⟨W5.heap.size, 1, none⟩ = some (.slice (some ⟨g2, 0, none⟩) ln.length ln.length) := fun u hu => (HBox.out u (below3 HV1.out hu)).2.1.2
          have sq : ∀ u, Below V1.heap.size V1 u → u.cell? ⟨w.heap.size, 5, none⟩ = some (.int .i64 q) := fun u hu => (HCell.out u (below3 H6.out (below3 HV1.out hu))).2.2.2.2.2
          have hLne : ¬ L = [] := fun e => by rw [e] at hL0; simp at hL0
          have HFN : Hid (blk (atL ln q) = FN) := hFN
          clear hr1 hv1 hL hV1 f0 f1 f2 f3 f4 f5 x0 x1 y0 y1 hFA hHd hinB hg8
          go_wp2
          refine wp_region_ord (S := fun u => Below V1.heap.size V1 u) [(0, true), (1, true), (2, true), (3, true), (4, false), (5, false), (6, true), (7, true), (8, true), (9, true), (10, true), (11, true), (12, true), (13, true), (14, true), (15, true), (16, true), (17, true), (18, true), (19, false), (20, true), (21, true)]
            (by kernel_rfl) rfl (by kernel_rfl) (fun d _ _ _ _ h => by cases d <;> exact h) ((Below.refl _ _).drew) ?_
          simp only [inOrd, List.getElem?_cons_zero, List.getElem?_cons_succ]
          have hX0 : Below V1.heap.size V1 V1.drew := (Below.refl _ _).drew
          refine wpOrd_yield (v := .slice (some ⟨g8, 0, none⟩) L.length c8) rfl (fun u _ => exec_mv rfl rfl) ?_
          simp only [Act.put, List.setIfInBounds_toArray, List.set_cons_succ, List.set_cons_zero]
          refine wpOrd_yield (v := .agg #[.int .i64 n, .slice (some ⟨g1, 0, none⟩) la.length la.length]) rfl (fun u hu => by have := sa0 u hu; have := sa1 u hu; go_simp) ?_
          simp only [Act.put, List.setIfInBounds_toArray, List.set_cons_succ, List.set_cons_zero]
          refine wpOrd_yield (v := .pointer (some ⟨w.heap.size, 5, none⟩)) rfl (fun u hu => by go_simp) ?_
          simp only [Act.put, List.setIfInBounds_toArray, List.set_cons_succ, List.set_cons_zero]
          refine wpOrd_yield (v := .int .i64 q) rfl (fun u hu => by have := sq u hu; go_simp) ?_
          simp only [Act.put, List.setIfInBounds_toArray, List.set_cons_succ, List.set_cons_zero]
          refine wpOrd_call rfl 26 _ _ rfl Try.call26 [.agg #[.int .i64 n, .slice (some ⟨g1, 0, none⟩) la.length la.length], .int .i64 q] rfl ?_
          refine (ba V1.drew hX0).mono ?_
          rintro e X1 ⟨rfl, hx1⟩
          have hX1 : Below V1.heap.size V1 X1 := below3 hX0 hx1
          refine ⟨_, rfl, hX1, ?_⟩
          simp only [Act.put, List.setIfInBounds_toArray, List.set_cons_succ, List.set_cons_zero]
          refine wpOrd_call rfl 25 _ _ rfl Try.call25 [.slice (some ⟨g8, 0, none⟩) L.length c8, .agg FA] rfl ?_
          refine (inn X1 hX1).mono ?_
          rintro e X2 ⟨rfl, hx2⟩
          have hX2 : Below V1.heap.size V1 X2 := below3 hX1 hx2
          refine ⟨_, rfl, hX2, ?_⟩
          simp only [Act.put, List.setIfInBounds_toArray, List.set_cons_succ, List.set_cons_zero]
          refine wpOrd_yield (v := .bool false) rfl (fun u hu => by go_simp) ?_
          simp only [Act.put, List.setIfInBounds_toArray, List.set_cons_succ, List.set_cons_zero]
          refine wpOrd_yield (v := .bool false) rfl (fun u _ => exec_mv rfl rfl) ?_
          simp only [Act.put, List.setIfInBounds_toArray, List.set_cons_succ, List.set_cons_zero]
          refine wpOrd_yield (v := .slice (some ⟨g8, 0, none⟩) L.length c8) rfl (fun u _ => exec_mv rfl rfl) ?_
          simp only [Act.put, List.setIfInBounds_toArray, List.set_cons_succ, List.set_cons_zero]
          refine wpOrd_yield (v := .int .i64 L.length) rfl (fun u hu => by go_simp) ?_
          simp only [Act.put, List.setIfInBounds_toArray, List.set_cons_succ, List.set_cons_zero]
          refine wpOrd_yield (v := .bool false) rfl (fun u hu => by go_simp) ?_
          simp only [Act.put, List.setIfInBounds_toArray, List.set_cons_succ, List.set_cons_zero]
          refine wpOrd_yield (v := .bool false) rfl (fun u hu => by go_simp) ?_
          simp only [Act.put, List.setIfInBounds_toArray, List.set_cons_succ, List.set_cons_zero]
          refine wpOrd_yield (v := .bool false) rfl (fun u _ => exec_mv rfl rfl) ?_
          simp only [Act.put, List.setIfInBounds_toArray, List.set_cons_succ, List.set_cons_zero]
          refine wpOrd_yield (v := .slice (some ⟨g8, 0, none⟩) L.length c8) rfl (fun u _ => exec_mv rfl rfl) ?_
          simp only [Act.put, List.setIfInBounds_toArray, List.set_cons_succ, List.set_cons_zero]
          refine wpOrd_yield (v := .pointer (some ⟨g8, 0, none⟩)) rfl (fun u hu => by go_simp) ?_
          simp only [Act.put, List.setIfInBounds_toArray, List.set_cons_succ, List.set_cons_zero]
          refine wpOrd_yield (v := .agg FN) rfl (fun u hu => exec_load rfl rfl (sH u hu)) ?_
          simp only [Act.put, List.setIfInBounds_toArray, List.set_cons_succ, List.set_cons_zero]
          refine wpOrd_yield (v := .agg #[.int .i64 n, .slice (some ⟨g2, 0, none⟩) ln.length ln.length]) rfl (fun u hu => by have := sn0 u hu; have := sn1 u hu; go_simp) ?_
          simp only [Act.put, List.setIfInBounds_toArray, List.set_cons_succ, List.set_cons_zero]
          refine wpOrd_yield (v := .pointer (some ⟨w.heap.size, 5, none⟩)) rfl (fun u hu => by go_simp) ?_
          simp only [Act.put, List.setIfInBounds_toArray, List.set_cons_succ, List.set_cons_zero]
          refine wpOrd_yield (v := .int .i64 q) rfl (fun u hu => by have := sq u hu; go_simp) ?_
          simp only [Act.put, List.setIfInBounds_toArray, List.set_cons_succ, List.set_cons_zero]
          refine wpOrd_call rfl 26 _ _ rfl Try.call26 [.agg #[.int .i64 n, .slice (some ⟨g2, 0, none⟩) ln.length ln.length], .int .i64 q] rfl ?_
          refine (bn X2 hX2).mono ?_
          rintro e X3 ⟨rfl, hx3⟩
          have hX3 : Below V1.heap.size V1 X3 := below3 hX2 hx3
          refine ⟨_, rfl, hX3, ?_⟩
          simp only [Act.put, List.setIfInBounds_toArray, List.set_cons_succ, List.set_cons_zero]
          refine wpOrd_yield (v := .bool false) rfl (fun u hu => exec_neqS rfl rfl rfl hFN hFN (sameB_self _)) ?_
          simp only [Act.put, List.setIfInBounds_toArray, List.set_cons_succ, List.set_cons_zero]
          refine wpOrd_yield (v := .bool false) rfl (fun u hu => by go_simp) ?_
          simp only [Act.put, List.setIfInBounds_toArray, List.set_cons_succ, List.set_cons_zero]
          refine wpOrd_nil ?_
          have HX : Hid (Below V1.heap.size V1 X3) := hX3
          obtain ⟨f0, f1, f2, f3, f4, f5⟩ := HCell.out X3 (below3 H6.out (below3 HV1.out hX3))
          have HBn : Hid (∀ u, Below V1.heap.size V1 u → Calls Try.prog 26 #[.agg #[.int .i64 n, .slice (some ⟨g2, 0, none⟩) ln.length ln.length], .int .i64 q] u fun e w' => e = .returned (.agg FN) ∧ Below u.heap.size u w') := bn
          clear ba bn inn sH sa0 sa1 sn0 sn1 sq hFN hX0 hX1 hX2 hX3 hx1 hx2 hx3
          go_wp2_with (go_at_call 27; fail)
          have pn := pending_any ops _ co K X3 (by omega) (HO2.out X3 (below3 H6.out (below3 HV1.out HX.out))) lc
          rw [show upTo ops.length K = k by unfold upTo; have := HkK.out; omega] at pn
          refine pn.mono ?_
          clear pn
          rintro e V2 ⟨v2, rfl, hr2, hv2⟩
          obtain ⟨p9, c9, rfl, hp9, _, _⟩ := ints_of_row hr2
          have HV2 : Hid (Below V1.heap.size V1 V2) := below3 HX.out hv2
          have HPd : Hid (pendL (ops.take k) = (List.range (tailR (ops.take k)).length).map fun j => ((sureN (ops.take k) + j : Nat) : Int)) := pendL_tail (tail_kind HOf.out)
          obtain ⟨d, hd⟩ : ∃ d, (tailR (ops.take k)).length = d := ⟨_, rfl⟩
          have hd2 : d ≤ 120 := by
            have := tail_len (ops.take k)
            rw [List.length_take] at this
            omega
          have hPl : (pendL (ops.take k)).length = d := by rw [HPd.out, List.length_map, List.length_range, hd]
          have HPi : Hid (∀ W, Below V2.heap.size V2 W → IntsAt W p9 (pendL (ops.take k))) := fun W hW => hp9.later hW
          rw [hPl]
          clear hr2 hv2 hp9 f0 f1 f2 f3 f4 f5 HX
          go_wp2
          go_loopw [10] (fun s10 wx => ∃ i : Nat, i ≤ L.length ∧ s10 = .int .i64 i ∧ Hid (Below V2.heap.size V2 wx)) (fun s10 _ => L.length - (intOf s10).toNat)
          case atStart => exact ⟨0, by omega, rfl, Below.refl _ _⟩
          case round =>
            obtain ⟨i, hi, rfl, HB⟩ := hrel
            by_cases hi2 : (i : Int) < L.length
            · have hgi : L[i]? = some L[i] := List.getElem?_eq_getElem (by omega)
              have hmem := HSome.out L[i] (List.getElem_mem _)
              have hcx := HCanL.out L[i] (List.getElem_mem _)
              generalize L[i] = x at *
              have HMem : Hid (x = atL ln q ∨ ∃ (j : Nat) (r : Rec), (tailR (ops.take k))[j]? = some r ∧ r.pos = q ∧ r.dat = x) := hmem
              have HCx : Hid (Can x) := hcx
              have hW : Below V1.heap.size V1 wr := below3 HV2.out HB.out
              obtain ⟨FX, hFX⟩ : ∃ FX, blk x = FX := ⟨_, rfl⟩
              have HSX : Hid (∀ u, Below V1.heap.size V1 u → (Instr.loadAt 40 (.pointer (some ⟨g8, i * 1024, none⟩))).run Try.prog u = .ok (.agg FX) u) := fun u hu => by
                rw [← hFX]
                exact loadM (HL.out u hu i x hgi)
              have sX : ∀ u, Below wr.heap.size wr u → (Instr.loadAt 40 (.pointer (some ⟨g8, i * 1024, none⟩))).run Try.prog u = .ok (.agg FX) u := fun u hu => HSX.out u (below3 hW hu)
              have sn0 : ∀ u, Below wr.heap.size wr u → u.cell? ⟨W5.heap.size, 0, none⟩ = some (.int .i64 n) := fun u hu => (HBox.out u (below3 HV1.out (below3 hW hu))).2.1.1
              have sn1 : ∀ u, Below wr.heap.size wr u → u.cell? ⟨W5.heap.size, 1, none⟩ = some (.slice (some ⟨g2, 0, none⟩) ln.length ln.length) := fun u hu => (HBox.out u (below3 HV1.out (below3 hW hu))).2.1.2
              have sq : ∀ u, Below wr.heap.size wr u → u.cell? ⟨w.heap.size, 5, none⟩ = some (.int .i64 q) := fun u hu => (HCell.out u (below3 H6.out (below3 HV1.out (below3 hW hu)))).2.2.2.2.2
              have bn : ∀ u, Below wr.heap.size wr u → Calls Try.prog 26 #[.agg #[.int .i64 n, .slice (some ⟨g2, 0, none⟩) ln.length ln.length], .int .i64 q] u fun e w' => e = .returned (.agg FN) ∧ Below u.heap.size u w' := fun u hu => HBn.out u (below3 hW hu)
              have hFN := HFN.out
              obtain ⟨f, hf⟩ : ∃ f, sameB x (atL ln q) = f := ⟨_, rfl⟩
              have HInit : Hid (f = false → x ≠ atL ln q) := fun e z => by
                rw [z, sameB_self] at hf
                rw [e] at hf
                cases hf
              clear hgi hmem hcx
              go_wp2
              refine wp_region_ord (S := fun u => Below wr.heap.size wr u) [(0, true), (1, true), (2, true), (3, true), (4, true), (5, true), (6, true), (7, false), (8, true), (9, true)]
                (by kernel_rfl) rfl (by kernel_rfl) (fun d _ _ _ _ h => by cases d <;> exact h) ((Below.refl _ _).drew) ?_
              simp only [inOrd, List.getElem?_cons_zero, List.getElem?_cons_succ]
              have hX0 : Below wr.heap.size wr wr.drew := (Below.refl _ _).drew
              refine wpOrd_yield (v := .slice (some ⟨g8, 0, none⟩) L.length c8) rfl (fun u _ => exec_mv rfl rfl) ?_
              simp only [Act.put, List.setIfInBounds_toArray, List.set_cons_succ, List.set_cons_zero]
              refine wpOrd_yield (v := .int .i64 i) rfl (fun u _ => exec_mv rfl rfl) ?_
              simp only [Act.put, List.setIfInBounds_toArray, List.set_cons_succ, List.set_cons_zero]
              refine wpOrd_yield (v := .pointer (some ⟨g8, i * 1024, none⟩)) rfl (fun u hu => by go_simp) ?_
              simp only [Act.put, List.setIfInBounds_toArray, List.set_cons_succ, List.set_cons_zero]
              refine wpOrd_yield (v := .agg FX) rfl (fun u hu => exec_load rfl rfl (sX u hu)) ?_
              simp only [Act.put, List.setIfInBounds_toArray, List.set_cons_succ, List.set_cons_zero]
              refine wpOrd_yield (v := .agg #[.int .i64 n, .slice (some ⟨g2, 0, none⟩) ln.length ln.length]) rfl (fun u hu => by have := sn0 u hu; have := sn1 u hu; go_simp) ?_
              simp only [Act.put, List.setIfInBounds_toArray, List.set_cons_succ, List.set_cons_zero]
              refine wpOrd_yield (v := .pointer (some ⟨w.heap.size, 5, none⟩)) rfl (fun u hu => by go_simp) ?_
              simp only [Act.put, List.setIfInBounds_toArray, List.set_cons_succ, List.set_cons_zero]
              refine wpOrd_yield (v := .int .i64 q) rfl (fun u hu => by have := sq u hu; go_simp) ?_
              simp only [Act.put, List.setIfInBounds_toArray, List.set_cons_succ, List.set_cons_zero]
              refine wpOrd_call rfl 26 _ _ rfl Try.call26 [.agg #[.int .i64 n, .slice (some ⟨g2, 0, none⟩) ln.length ln.length], .int .i64 q] rfl ?_
              refine (bn wr.drew hX0).mono ?_
              rintro e X1 ⟨rfl, hx1⟩
              have hX1 : Below wr.heap.size wr X1 := below3 hX0 hx1
              refine ⟨_, rfl, hX1, ?_⟩
              simp only [Act.put, List.setIfInBounds_toArray, List.set_cons_succ, List.set_cons_zero]
              refine wpOrd_yield (v := .bool f) rfl (fun u hu => exec_eq40 rfl rfl rfl hFX hFN hf) ?_
              simp only [Act.put, List.setIfInBounds_toArray, List.set_cons_succ, List.set_cons_zero]
              refine wpOrd_yield (v := .bool f) rfl (fun u hu => by go_simp) ?_
              simp only [Act.put, List.setIfInBounds_toArray, List.set_cons_succ, List.set_cons_zero]
              refine wpOrd_nil ?_
              have HB3 : Hid (Below V2.heap.size V2 X1) := below3 HB.out hX1
              clear sX sn0 sn1 sq bn hX0 hX1 hx1 hW hFN hf HB
              go_wp2
              go_loopw [11, 12] (fun s11 s12 wx => ∃ (b : Bool) (j : Nat), j ≤ d ∧ s11 = .bool b ∧ s12 = .int .i64 j ∧ Hid (b = false → x ≠ atL ln q ∧ ∀ (j' : Nat) (r : Rec), j' < j → (tailR (ops.take k))[j']? = some r → r.pos = q → r.dat ≠ x) ∧ Hid (Below V2.heap.size V2 wx)) (fun _ s12 _ => d - (intOf s12).toNat)
              case atStart => exact ⟨f, 0, by omega, rfl, rfl, fun e => ⟨HInit.out e, fun j' r h => by omega⟩, HB3.out⟩
              case round =>
                obtain ⟨b, j, hj, rfl, rfl, HNo, HBj⟩ := hrel
                clear HInit HB3
                cases b
                · by_cases hj2 : (j : Int) < d
                  · skip
                    exfalso
                    have := tail_len (ops.take k)
                    rw [List.length_take] at this
                    have := HkK.out
                    omega
                  · exfalso
                    obtain ⟨n1, n2⟩ := HNo.out rfl
                    rcases HMem.out with h | ⟨j', r, h1, h2, h3⟩
                    · exact n1 h
                    · exact n2 j' r (by have := (List.getElem?_eq_some_iff.1 h1).1; omega) h1 h2 h3
                · have hBw := below3 (below3 HB2.out (below3 H6.out HV1.out)) HV2.out
                  by_cases hj2 : (j : Int) < d
                  · go_wp2
                    exact ⟨⟨i + 1, by omega, by go_num, HBj.out⟩, by simp [intOf]; omega⟩
                  · go_wp2
                    exact ⟨⟨i + 1, by omega, by go_num, HBj.out⟩, by simp [intOf]; omega⟩
            · go_wp2
              go_ret
              exact ⟨rfl, below3 HB2.out (below3 H6.out (below3 HV1.out (below3 HV2.out HB.out)))⟩
        · refine (block_bad n l p cp ops _ co K q W7 (by omega) (HI2.out _ (below3 H6.out h7)) (by omega) (HO2.out _ (below3 H6.out h7)) (.inr (by omega))).mono ?_
          rintro e V1 ⟨rfl, hv1⟩
          have hV1 := below3 h7 hv1
          obtain ⟨z0, z1, z2, z3, z4, z5⟩ := HCell.out V1 (below3 H6.out hV1)
          have HV1 : Hid (Below W6.heap.size W6 V1) := hV1
          clear f0 f1 f2 f3 f4 f5 x0 x1 y0 y1 hv1 hV1
          by_cases hq0 : q < 0
          · go_wp2
            go_ret
            exact ⟨rfl, below3 HB2.out (below3 H6.out HV1.out)⟩
          · have hqn : q ≥ n := by omega
            go_wp2
            go_ret
            exact ⟨rfl, below3 HB2.out (below3 H6.out HV1.out)⟩
  · rw [hbig] at hlg1
    go_wp2_with (go_at_call 9; refine hlg1.mono ?_; rintro e W2 ⟨rfl, hb2⟩)
    go_ret
    exact ⟨rfl, below3 hB1 hb2⟩
end Go.Proofs.Ytbnbbelkddbndaa
