import Derived.Test.YtbnbbelkddbndaaHList
import Derived.Deep.Cut
import Derived.Deep.CutRange
/- The document's functions of images: Whole, At; the law's own large and sameImage; lists of at most a billion blocks. -/
namespace Go.Proofs.Ytbnbbelkddbndaa
open Go.RowKit Go.Maps
set_option maxRecDepth 20000 in
set_option maxHeartbeats 4000000 in
theorem rWhole_any (n : Int) (l : List Cel) (p : Option Addr) (cap : Nat) (w : World) (hl : l.length ≤ 1000000000) (h : ImgAt w p l) :
    Calls Try.prog 42 #[.agg #[.int .i64 n, .slice p l.length cap]] w fun e w' => e = .returned (.int .i64 (wholeE n l)) ∧ Below w.heap.size w w' := by
  have hB := below_new w (.cells #[.int .i64 n, .slice p l.length cap] 24)
  have hG := heap_alloc_new w (.cells #[.int .i64 n, .slice p l.length cap] 24)
  have HI : Hid (ImgAt w p l) := h
  clear h
  obtain ⟨N, hN⟩ : ∃ N, l.length = N := ⟨_, rfl⟩
  have HN := Hid.mk' hN
  rw [hN] at hl hB hG ⊢
  clear hN
  have h10 : ((1 : Int) ≤ n ∧ n ≤ 1048576) ↔ bndB n = true := by unfold bndB; exact decide_eq_true_iff.symm
  by_cases h1 : n < 1
  · have hres : wholeE n l = 2 := by
      have : bndB n = false := by cases q : bndB n; rfl; exact absurd (h10.2 q).1 (by omega)
      unfold wholeE mayB; rw [this]; rfl
    rw [hres]
    clear hres h10
    go_enter Try.func42, Try.ntmps42
    go_wp2
    go_ret
    exact ⟨rfl, hB⟩
  by_cases h2 : n > 1048576
  · have hres : wholeE n l = 2 := by
      have : bndB n = false := by cases q : bndB n; rfl; exact absurd (h10.2 q).2 (by omega)
      unfold wholeE mayB; rw [this]; rfl
    rw [hres]
    clear hres h10
    go_enter Try.func42, Try.ntmps42
    go_wp2
    go_ret
    exact ⟨rfl, hB⟩
  have HR : Hid (wholeE n l = if risesB n (-1) (l.drop 0) then 0 else 2) := by unfold wholeE mayB; rw [h10.1 ⟨by omega, by omega⟩]; rfl
  generalize wholeE n l = res at *
  clear h10
  have z25 := zero25
  have HBn := Hid.mk' (below_new (w.alloc (.cells #[.int .i64 n, .slice p N cap] 24)) (.cells (blk nought) 40))
  have H0 : Hid (Below w.heap.size w ((w.alloc (.cells #[.int .i64 n, .slice p N cap] 24)).alloc (.cells (blk nought) 40)) ∧ ((w.alloc (.cells #[.int .i64 n, .slice p N cap] 24)).alloc (.cells (blk nought) 40)).heap[w.heap.size]? = some (.cells #[.int .i64 n, .slice p N cap] 24) ∧ ((w.alloc (.cells #[.int .i64 n, .slice p N cap] 24)).alloc (.cells (blk nought) 40)).heap[w.heap.size + 1]? = some (.cells (blk nought) 40)) := by
    refine ⟨below_next hB HBn.out, heap_kept hG HBn.out, ?_⟩
    have := heap_alloc_new (w.alloc (.cells #[.int .i64 n, .slice p N cap] 24)) (.cells (blk nought) 40)
    simpa using this
  clear hB hG HBn
  obtain ⟨NB, eNB⟩ : ∃ NB, NB = nought := ⟨nought, rfl⟩
  have HNB := Hid.mk' eNB
  rw [← eNB] at z25 H0
  clear eNB
  go_enter Try.func42, Try.ntmps42
  go_wp2
  go_loopw [4, 5] (fun s4 s5 wx => ∃ (k : Nat) (x : Int), k ≤ N ∧ s4 = .int .i64 x ∧ s5 = .int .i64 k ∧ Hid (Below w.heap.size w wx ∧ wx.heap[w.heap.size]? = some (.cells #[.int .i64 n, .slice p N cap] 24) ∧ wx.heap[w.heap.size + 1]? = some (.cells (blk NB) 40)) ∧ Hid (res = if risesB n x (l.drop k) then 0 else 2)) (fun _ s5 _ => N - (intOf s5).toNat)
  case atStart => exact ⟨0, -1, by omega, rfl, rfl, H0.out, HR.out⟩
  case round =>
    obtain ⟨k, x, hk, rfl, rfl, H9, HR2⟩ := hrel
    clear HR H0
    have i0 : wr.cell? ⟨w.heap.size, 0, none⟩ = some (.int .i64 n) := Joins.cell_of_block H9.out.2.1 0
    have i1 : wr.cell? ⟨w.heap.size, 1, none⟩ = some (.slice p N cap) := Joins.cell_of_block H9.out.2.1 1
    by_cases hk2 : (k : Int) < N
    · have hlN := HN.out
      have hc : l[k]? = some (l[k]'(by omega)) := List.getElem?_eq_getElem _
      obtain ⟨b, off, rfl, hlt, hC⟩ := HI.out (by omega)
      have hd : l.drop k = l[k]'(by omega) :: l.drop (k + 1) := List.drop_eq_getElem_cons (by omega)
      generalize l[k]'(by omega) = c at hc hd
      have q1 : CelAt wr b (off + k * 1025) c := (hC.later H9.out.1 hlt) k c hc
      have hR := HR2.out
      rw [hd] at hR
      unfold risesB at hR
      have hbA := below_new wr (.cells (celRow c).toArray 44)
      have hA := heap_alloc_new wr (.cells (celRow c).toArray 44)
      have hcA := one_cel hA
      have h9A : Below w.heap.size w (wr.alloc (.cells (celRow c).toArray 44)) ∧ (wr.alloc (.cells (celRow c).toArray 44)).heap[w.heap.size]? = some (.cells #[.int .i64 n, .slice (some ⟨b, off, none⟩) N cap] 24) ∧ (wr.alloc (.cells (celRow c).toArray 44)).heap[w.heap.size + 1]? = some (.cells (blk NB) 40) := ⟨below_next H9.out.1 hbA, heap_kept H9.out.2.1 hbA, heap_kept H9.out.2.2 hbA⟩
      have H10 := Hid.mk' h9A
      have HQ := Hid.mk' q1
      have HSz := Hid.mk' (show (Try.prog.info? 44).map (·.size) = some (celRow c).toArray.size by rw [cel_size]; exact size85)
      have HAll := Hid.mk' (cel_all c)
      have HZs := Hid.mk' (show (celRow (0, nought)).toArray.size = (celRow c).toArray.size by rw [cel_size, cel_size])
      have z44 := zero85
      have j0 : (wr.alloc (.cells (celRow c).toArray 44)).cell? ⟨w.heap.size, 0, none⟩ = some (.int .i64 n) := Joins.cell_of_block h9A.2.1 0
      have j1 : (wr.alloc (.cells (celRow c).toArray 44)).cell? ⟨wr.heap.size, 0, none⟩ = some (.int .i64 c.1) := hcA.1
      have HJB := Hid.mk' (show BlkAt (wr.alloc (.cells (celRow c).toArray 44)) wr.heap.size 1 c.2 by have := hcA.2; rwa [Nat.zero_add] at this)
      have HJN := Hid.mk' h9A.2.2
      obtain ⟨y, f⟩ := c
      simp only at hR j1 HJB
      generalize (celRow (0, nought)).toArray = Z at *
      clear hd hc HR2 hC hbA hA hcA h9A q1 H9
      go_wp2_with (first | (with_reducible refine isLoadR 44 ?_; refine wpList_exec rfl (exec_load44 (c := (y, f)) rfl rfl HQ.out) ?_) | (with_reducible refine isStoreR 44 ?_; refine wpList_stNew 44 rfl _ _ rfl _ (celRow (y, f)).toArray _ 44 HSz.out HZs.out HAll.out rfl rfl rfl ?_; refine Hid.out ?_))
      unfold Hid
      generalize (celRow (y, f)).toArray = C at *
      by_cases h3 : y ≤ x
      · have hr0 : res = 2 := by rw [hR]; simp [h3]
        have HFn := Hid.mk' H10.out.1
        clear hR
        subst hr0
        go_wp2
        go_ret
        exact ⟨rfl, HFn.out⟩
      · by_cases h4 : y ≥ n
        · have hr0 : res = 2 := by rw [hR]; simp [h4]
          have HFn := Hid.mk' H10.out.1
          clear hR
          subst hr0
          go_wp2
          go_ret
          exact ⟨rfl, HFn.out⟩
        · cases h5 : blankB f
          · have HR3 : Hid (res = if risesB n y (l.drop (k + 1)) then 0 else 2) := by
              show res = _
              rw [hR, h5]; simp [h3, h4]
            have h3' : sameB f NB = false := by rw [HNB.out]; exact h5
            clear hR
            go_wp2_with (first | (with_reducible refine isLoadR 40 ?_; first | refine wpList_loadMw rfl (.tmp 39) rfl wr.heap.size 1 rfl f HJB.out ?_ | refine wpList_ldR 40 Try.underlying40 rfl rfl _ rfl _ rfl _ 40 (0, 0) (by rw [blk_size]; exact size25) HJN.out ?_) | (with_reducible refine isEqR 40 40 ?_; refine wpList_eq58 rfl (.tmp 40) (.tmp 41) rfl f NB false rfl rfl h3' ?_))
            exact ⟨⟨k + 1, y, by omega, rfl, by go_num, H10.out, HR3.out⟩, by simp [intOf]; omega⟩
          · have hr0 : res = 2 := by rw [hR, h5]; simp
            have h3' : sameB f NB = true := by rw [HNB.out]; exact h5
            have HFn := Hid.mk' H10.out.1
            clear hR
            subst hr0
            go_wp2_with (first | (with_reducible refine isLoadR 40 ?_; first | refine wpList_loadMw rfl (.tmp 39) rfl wr.heap.size 1 rfl f HJB.out ?_ | refine wpList_ldR 40 Try.underlying40 rfl rfl _ rfl _ rfl _ 40 (0, 0) (by rw [blk_size]; exact size25) HJN.out ?_) | (with_reducible refine isEqR 40 40 ?_; refine wpList_eq58 rfl (.tmp 40) (.tmp 41) rfl f NB true rfl rfl h3' ?_))
            go_ret
            exact ⟨rfl, HFn.out⟩
    · have hr0 : res = 0 := by rw [HR2.out, List.drop_of_length_le (by have := HN.out; omega)]; rfl
      have HFn := Hid.mk' H9.out.1
      clear HR2 H9
      subst hr0
      go_wp2
      go_ret
      exact ⟨rfl, HFn.out⟩
set_option maxRecDepth 20000 in
set_option maxHeartbeats 4000000 in
theorem rAt_any (n : Int) (l : List Cel) (p : Option Addr) (cap : Nat) (at' : Int) (w : World) (hl : l.length ≤ 1000000000) (h : ImgAt w p l) :
    Calls Try.prog 77 #[.agg #[.int .i64 n, .slice p l.length cap], .int .i64 at'] w fun e w' => e = .returned (.agg (blk (atL l at'))) ∧ Below w.heap.size w w' := by
  have z25 := zero25
  have HI : Hid (ImgAt w p l) := h
  clear h
  obtain ⟨N, hN⟩ : ∃ N, l.length = N := ⟨_, rfl⟩
  have HN := Hid.mk' hN
  rw [hN] at hl ⊢
  clear hN
  have hB := below_next (below_new w (.cells #[.int .i64 n, .slice p N cap] 24)) (below_new _ (.cells (blk nought) 40))
  have hG : ((w.alloc (.cells #[.int .i64 n, .slice p N cap] 24)).alloc (.cells (blk nought) 40)).heap[w.heap.size]? = some (.cells #[.int .i64 n, .slice p N cap] 24) := heap_kept (heap_alloc_new w _) (below_new _ _)
  have hG4 : ((w.alloc (.cells #[.int .i64 n, .slice p N cap] 24)).alloc (.cells (blk nought) 40)).heap[w.heap.size + 1]? = some (.cells (blk nought) 40) := by
    have := heap_alloc_new (w.alloc (.cells #[.int .i64 n, .slice p N cap] 24)) (.cells (blk nought) 40)
    simpa using this
  have i1 : ((w.alloc (.cells #[.int .i64 n, .slice p N cap] 24)).alloc (.cells (blk nought) 40)).cell? ⟨w.heap.size, 1, none⟩ = some (.slice p N cap) := Joins.cell_of_block hG 1
  have HB := Hid.mk' hB
  have HG4 := Hid.mk' hG4
  have HR : Hid (atL l at' = atL (l.drop 0) at') := rfl
  generalize atL l at' = res at *
  clear hB hG hG4
  go_enter Try.func77, Try.ntmps77
  go_wp2
  generalize (w.alloc (.cells #[.int .i64 n, .slice p N cap] 24)).alloc (.cells (blk nought) 40) = W0 at *
  go_loopw [5] (fun s5 wx => ∃ k : Nat, k ≤ N ∧ s5 = .int .i64 k ∧ wx = W0 ∧ Hid (res = atL (l.drop k) at')) (fun s5 _ => N - (intOf s5).toNat)
  case atStart => exact ⟨0, by omega, rfl, rfl, HR.out⟩
  case round =>
    obtain ⟨k, hk, rfl, rfl, HR2⟩ := hrel
    clear HR
    by_cases hk2 : (k : Int) < N
    · have hlN := HN.out
      have hc : l[k]? = some (l[k]'(by omega)) := List.getElem?_eq_getElem _
      obtain ⟨b, off, rfl, hlt, hC⟩ := HI.out (by omega)
      have hd : l.drop k = l[k]'(by omega) :: l.drop (k + 1) := List.drop_eq_getElem_cons (by omega)
      generalize l[k]'(by omega) = c at hc hd
      obtain ⟨q1, q2⟩ : CelAt wr b (off + k * 1025) c := (hC.later HB.out hlt) k c hc
      obtain ⟨y, f⟩ := c
      have hR := HR2.out
      rw [hd] at hR
      unfold atL at hR
      simp only at hR q1 q2
      have HQ2 := Hid.mk' q2
      clear hd hc HR2 hC q2
      by_cases hy : y = at'
      · have HRf := Hid.mk' (show res = f by rw [hR, if_pos hy])
        subst hy
        clear hR
        go_wp2_with (first | (with_reducible refine isLoadR 40 ?_; refine wpList_loadMw rfl (.tmp 25) rfl b (off + k * 1025 + 1) rfl f HQ2.out ?_) | (with_reducible refine isStoreR 40 ?_; refine wpList_store25 rfl _ _ rfl (w.heap.size + 1) f rfl rfl _ HG4.out ?_))
        rw [HRf.out]
        exact ret25 rfl (w.heap.size + 1) f rfl (setRow_heap _ _ _ _ _ _ HG4.out) rfl ⟨rfl, below_setRow HB.out (by omega) _⟩
      · have HR3 := Hid.mk' (show res = atL (l.drop (k + 1)) at' by rw [hR, if_neg hy])
        clear hR
        go_wp2
        exact ⟨⟨k + 1, by omega, by go_num, by trivial, HR3.out⟩, by simp [intOf]; omega⟩
    · have HRf := Hid.mk' (show res = nought by rw [HR2.out, List.drop_of_length_le (by have := HN.out; omega)]; rfl)
      clear HR2
      go_wp2_with (first | (with_reducible refine isBuildR 40 ?_; refine wpList_exec rfl (exec_zeroB rfl) ?_) | (with_reducible refine isStoreR 40 ?_; refine wpList_store25 rfl _ _ rfl (w.heap.size + 1) nought rfl rfl _ HG4.out ?_))
      rw [HRf.out]
      exact ret25 rfl (w.heap.size + 1) nought rfl (setRow_heap _ _ _ _ _ _ HG4.out) rfl ⟨rfl, below_setRow HB.out (by omega) _⟩
end Go.Proofs.Ytbnbbelkddbndaa
/- The document's With: an image with a block written; lists of at most a million blocks. -/
namespace Go.Proofs.Ytbnbbelkddbndaa
open Go.RowKit Go.Maps
/-- The four boxes of the call, and the list that grows. -/
structure WSt (w wx : World) (im : Array Value) (b : Nat → Int) (n : Int) (p : Option Addr) (c : Nat) (acc : List Cel) : Prop where
  hl : HL (w.heap.size + 4) wx (.slice p acc.length c) acc
  bel : Below w.heap.size w wx
  r3 : wx.heap[w.heap.size]? = some (.cells im 24)
  r5 : wx.heap[w.heap.size + 1]? = some (.cells (blk b) 40)
  r6 : wx.heap[w.heap.size + 2]? = some (.cells #[.int .i64 0, .slice none 0 0] 24)
  r7 : wx.heap[w.heap.size + 3]? = some (.cells #[.int .i64 n, .slice p acc.length c] 24)
theorem WSt.later {w wx wy : World} {im : Array Value} {b : Nat → Int} {n : Int} {p : Option Addr} {c : Nat} {acc : List Cel} (h : WSt w wx im b n p c acc) (hb : Below wx.heap.size wx wy) : WSt w wy im b n p c acc := by
  refine ⟨?_, below_next h.bel hb, heap_kept h.r3 hb, heap_kept h.r5 hb, heap_kept h.r6 hb, heap_kept h.r7 hb⟩
  obtain ⟨h1, h2⟩ := h.hl
  refine ⟨h1, ?_⟩
  rcases h2 with h2 | ⟨g, cp, cur, hv, hg, hh, r⟩
  · exact .inl h2
  · exact .inr ⟨g, cp, cur, hv, hg, heap_kept hh hb, r⟩
/-- One more is appended and laid back. -/
theorem WSt.push {w wx : World} {im : Array Value} {b : Nat → Int} {n : Int} {p : Option Addr} {c : Nat} {acc : List Cel} (h : WSt w wx im b n p c acc) (x : Cel) (hl : acc.length ≤ 10000000) (ty : TypeId) :
    ∃ p' c' W', (Builtin.append_ #[22, 22] ty #[.slice p acc.length c, .slice (some ⟨wx.heap.size, 0, none⟩) 1 1]).run Try.prog (wx.alloc (.cells (celRow x).toArray 44)) = .ok (.slice p' (acc.length + 1) c') W' ∧
      W'.cell? ⟨w.heap.size + 3, 1, none⟩ = some (.slice p acc.length c) ∧ W'.frozen? ⟨w.heap.size + 3, 1, none⟩ = false ∧ WSt w (W'.setCell ⟨w.heap.size + 3, 1, none⟩ (.slice p' (acc.length + 1) c')) im b n p' c' (acc ++ [x]) ∧
      (∀ g o, wx.heap[g]? = some o → g ≠ w.heap.size + 3 → (∀ k, (Value.slice p acc.length c).ownBlock = some k → k ≠ g) → (W'.setCell ⟨w.heap.size + 3, 1, none⟩ (.slice p' (acc.length + 1) c')).heap[g]? = some o) ∧
      (∀ k, (Value.slice p' (acc.length + 1) c').ownBlock = some k → (Value.slice p acc.length c).ownBlock = some k ∨ wx.heap.size ≤ k) := by
  have h4 := (Array.getElem?_eq_some_iff.1 h.r7).1
  obtain ⟨v', W', hr, hown, hb, hfr, hob⟩ := h.hl.push (by omega) (by omega) x ty
  obtain ⟨p', c', hv, _⟩ := hown.img
  have hll : (acc ++ [x]).length = acc.length + 1 := by simp
  rw [hll] at hv
  subst hv
  have k3 := (hb.block _ (by omega)).trans h.r3
  have k5 := (hb.block _ (by omega)).trans h.r5
  have k6 := (hb.block _ (by omega)).trans h.r6
  have k7 := (hb.block _ (by omega)).trans h.r7
  have hf : Fr (fun i => i = w.heap.size + 3) W' (W'.setCell ⟨w.heap.size + 3, 1, none⟩ (.slice p' (acc.length + 1) c')) := Fr.setCell W' _ _ _
  refine ⟨p', c', W', hr, Joins.cell_of_block k7 1, Joins.unfrozen_of_block k7 1, ⟨?_, (h.bel.trans (hb.mono (by omega))).setCell (by simp) _, (heap_setCell_other W' _ _ _ (by simp)).trans k3, (heap_setCell_other W' _ _ _ (by simp)).trans k5, (heap_setCell_other W' _ _ _ (by simp)).trans k6, ?_⟩, fun g o ho hg hk => ?_, hob⟩
  · rw [hll]
    refine ⟨hown.1, ?_⟩
    rcases hown.2 with h | ⟨g, cp, cur, h1, h2, h3, h4⟩
    · exact .inl h
    · exact .inr ⟨g, cp, cur, h1, h2, (hf.block g (Array.getElem?_eq_some_iff.1 h3).1 (by omega)).trans h3, h4⟩
  · rw [hll]
    exact heap_setCell_same W' (w.heap.size + 3) 1 _ 24 _ k7
  · exact (heap_setCell_other W' _ _ _ hg).trans ((hfr.block g (Array.getElem?_eq_some_iff.1 ho).1 fun q => hk g q rfl).trans ho)
section
variable {ops : Array Oper} {rest : List Oper} {Q : Exit → Act → World → Prop} {a : Act} {w : World} {dst : Option Tmp} {x y : Operand} {ty : TypeId} {pos : String} {aft : Array Edge} {gd : Option (Nat × Bool)}
theorem isSlice {t : TypeId} {n : Nat} {ps : Array (Nat × Operand)} (h : wpList Try.prog ops Q (⟨dst, .buildSlice t n ps, ty, pos, aft, gd⟩ :: rest) a w) : wpList Try.prog ops Q (⟨dst, .buildSlice t n ps, ty, pos, aft, gd⟩ :: rest) a w := h
theorem isAppend {xs : Array Operand} {ts : Array TypeId} (h : wpList Try.prog ops Q (⟨dst, .call { callee := .builtin .append, args := xs, argTypes := ts }, ty, pos, aft, gd⟩ :: rest) a w) : wpList Try.prog ops Q (⟨dst, .call { callee := .builtin .append, args := xs, argTypes := ts }, ty, pos, aft, gd⟩ :: rest) a w := h
end
theorem laidGo_nil (k : Int) (b : Nat → Int) (d : Bool) : laidGo k b d [] = if d then [] else [(k, b)] := rfl
theorem laidGo_cons (k : Int) (b : Nat → Int) (d : Bool) (i : Int) (x : Nat → Int) (t : List Cel) : laidGo k b d ((i, x) :: t) = (if !d && decide (k ≤ i) then [(k, b)] else []) ++ ((if i = k then [] else [(i, x)]) ++ laidGo k b (d || decide (k ≤ i)) t) := rfl
set_option maxRecDepth 20000 in
set_option maxHeartbeats 4000000 in
theorem rWith_any (n : Int) (l : List Cel) (p0 : Option Addr) (cap : Nat) (at' : Int) (b : Nat → Int) (w : World) (hl : l.length ≤ 1000000) (h : ImgAt w p0 l) :
    Calls Try.prog 76 #[.agg #[.int .i64 n, .slice p0 l.length cap], .int .i64 at', .agg (blk b)] w fun e w' => ∃ p c, e = .returned (.agg #[.int .i64 n, .slice p (laidL l at' b).length c]) ∧ ImgAt w' p (laidL l at' b) ∧ (∀ b1 o1, p = some ⟨b1, o1, none⟩ → w.heap.size ≤ b1) ∧ Below w.heap.size w w' := by
  have HI : Hid (ImgAt w p0 l) := h
  clear h
  obtain ⟨N, hN⟩ : ∃ N, l.length = N := ⟨_, rfl⟩
  have HN := Hid.mk' hN
  rw [hN] at hl ⊢
  clear hN
  have H0 : Hid (WSt w ((((w.alloc (.cells #[.int .i64 n, .slice p0 N cap] 24)).alloc (.cells (blk b) 40)).alloc (.cells #[.int .i64 0, .slice none 0 0] 24)).alloc (.cells #[.int .i64 n, .slice none 0 0] 24)) #[.int .i64 n, .slice p0 N cap] b n none 0 []) := by
    have b1 := below_new w (.cells #[.int .i64 n, .slice p0 N cap] 24)
    have g1 := heap_alloc_new w (.cells #[.int .i64 n, .slice p0 N cap] 24)
    have s1 : (w.alloc (.cells #[.int .i64 n, .slice p0 N cap] 24)).heap.size = w.heap.size + 1 := by simp
    generalize w.alloc (.cells #[.int .i64 n, .slice p0 N cap] 24) = A1 at *
    have b2 := below_new A1 (.cells (blk b) 40)
    have g2 := heap_alloc_new A1 (.cells (blk b) 40)
    have s2 : (A1.alloc (.cells (blk b) 40)).heap.size = w.heap.size + 2 := by simp [s1]
    generalize A1.alloc (.cells (blk b) 40) = A2 at *
    have b3 := below_new A2 (.cells #[.int .i64 0, .slice none 0 0] 24)
    have g3 := heap_alloc_new A2 (.cells #[.int .i64 0, .slice none 0 0] 24)
    have s3 : (A2.alloc (.cells #[.int .i64 0, .slice none 0 0] 24)).heap.size = w.heap.size + 3 := by simp [s2]
    generalize A2.alloc (.cells #[.int .i64 0, .slice none 0 0] 24) = A3 at *
    have b4 := below_new A3 (.cells #[.int .i64 n, .slice none 0 0] 24)
    have g4 := heap_alloc_new A3 (.cells #[.int .i64 n, .slice none 0 0] 24)
    rw [s1] at g2
    rw [s2] at g3
    rw [s3] at g4
    exact ⟨HL.nil _ _, below_next (below_next (below_next b1 b2) b3) b4, heap_kept (heap_kept (heap_kept g1 b2) b3) b4, heap_kept (heap_kept g2 b3) b4, heap_kept g3 b4, g4⟩
  have HL0 : Hid (laidL l at' b = [] ++ laidGo at' b (blankB b) (l.drop 0)) := rfl
  generalize laidL l at' b = L at *
  have z44 := zero85
  have HZ5 := Hid.mk' (show (celRow (0, nought)).toArray.size = 1025 from cel_size _)
  generalize (celRow (0, nought)).toArray = Z at *
  obtain ⟨bl, hbl⟩ : ∃ bl, blankB b = bl := ⟨_, rfl⟩
  have HBL := Hid.mk' (show sameB b nought = bl from hbl)
  rw [hbl] at HL0
  clear hbl
  go_enter Try.func76, Try.ntmps76
  go_wp2_with (first | (with_reducible refine isLoadR 40 ?_; refine wpList_ldR 40 Try.underlying40 rfl rfl _ rfl _ rfl _ 40 (0, 0) (by rw [blk_size]; exact size25) H0.out.r5 ?_) | (with_reducible refine isBuildR 40 ?_; refine wpList_exec rfl (exec_zeroB rfl) ?_) | (with_reducible refine isEqR 40 40 ?_; refine wpList_execw rfl (exec_eqBZ rfl rfl rfl HBL.out) ?_))
  generalize (((w.alloc (.cells #[.int .i64 n, .slice p0 N cap] 24)).alloc (.cells (blk b) 40)).alloc (.cells #[.int .i64 0, .slice none 0 0] 24)).alloc (.cells #[.int .i64 n, .slice none 0 0] 24) = W0 at *
  go_loopw [8, 9] (fun s8 s9 wx => ∃ (k : Nat) (dn : Bool) (p : Option Addr) (c : Nat) (acc : List Cel), k ≤ N ∧ s8 = .bool dn ∧ s9 = .int .i64 k ∧ Hid (WSt w wx #[.int .i64 n, .slice p0 N cap] b n p c acc) ∧ Hid (L = acc ++ laidGo at' b dn (l.drop k) ∧ acc.length ≤ 2 * k)) (fun _ s9 _ => N - (intOf s9).toNat)
  case atStart => exact ⟨0, bl, none, 0, [], by omega, rfl, rfl, H0.out, HL0.out, by simp⟩
  case round =>
    obtain ⟨k, dn, p, c, acc, hk, rfl, rfl, HW, HA⟩ := hrel
    clear H0 HL0
    have c31 : wr.cell? ⟨w.heap.size, 1, none⟩ = some (.slice p0 N cap) := Joins.cell_of_block HW.out.r3 1
    by_cases hk2 : (k : Int) < N
    · have hlN := HN.out
      have hc : l[k]? = some (l[k]'(by omega)) := List.getElem?_eq_getElem _
      obtain ⟨b0, off, rfl, hlt, hC⟩ := HI.out (by omega)
      have hd : l.drop k = l[k]'(by omega) :: l.drop (k + 1) := List.drop_eq_getElem_cons (by omega)
      generalize l[k]'(by omega) = x at hc hd
      have HOwn := Hid.mk' (fun k (hk : (Value.slice p acc.length c).ownBlock = some k) => (HW.out.hl.lt k hk).2)
      have HG10 := Hid.mk' (show w.heap.size + 4 ≤ wr.heap.size from (Array.getElem?_eq_some_iff.1 HW.out.r7).1)
      have HQ := Hid.mk' (show CelAt wr b0 (off + k * 1025) x from (hC.later HW.out.bel hlt) k x hc)
      have HW1 := Hid.mk' (HW.out.later (below_new wr (.cells (celRow x).toArray 44)))
      have HX1 := Hid.mk' (heap_alloc_new wr (.cells (celRow x).toArray 44))
      have j1 : (wr.alloc (.cells (celRow x).toArray 44)).cell? ⟨wr.heap.size, 0, none⟩ = some (.int .i64 x.1) := (one_cel HX1.out).1
      have hA := HA.out
      rw [hd] at hA
      have HSz := Hid.mk' (show (Try.prog.info? 44).map (·.size) = some (celRow x).toArray.size by rw [cel_size]; exact size85)
      have HAll := Hid.mk' (cel_all x)
      have HZs := Hid.mk' (show Z.size = (celRow x).toArray.size by rw [cel_size, HZ5.out])
      obtain ⟨y, f⟩ := x
      rw [laidGo_cons] at hA
      simp only at j1
      have HA2 := Hid.mk' hA
      clear hd hc hC HA hA HW
      go_wp2_with (first | (with_reducible refine isLoadR 44 ?_; refine wpList_exec rfl (exec_load44 (c := (y, f)) rfl rfl HQ.out) ?_) | (with_reducible refine isStoreR 44 ?_; refine wpList_stNew 44 rfl _ _ rfl _ (celRow (y, f)).toArray _ 44 HSz.out HZs.out HAll.out rfl rfl rfl ?_; refine Hid.out ?_))
      unfold Hid
      generalize hX : wr.alloc (.cells (celRow (y, f)).toArray 44) = X1 at *
      have HXs := Hid.mk' (show wr.heap.size < X1.heap.size from (Array.getElem?_eq_some_iff.1 HX1.out).1)
      clear hX c31
      generalize wr.heap.size = g10 at *
      have HLe := Hid.mk' (show acc.length ≤ 2000000 by have := HA2.out.2; omega)
      have c71 : X1.cell? ⟨w.heap.size + 3, 1, none⟩ = some (.slice p acc.length c) := Joins.cell_of_block HW1.out.r7 1
      have HL5 := Hid.mk' HW1.out.r5
      cases dn
      · by_cases hp : at' ≤ y
        · have hpI : decide (at' ≤ y) = true := decide_eq_true hp
          obtain ⟨p8, c8, V8, hr8, c78, f78, hw8, hk8, ho8⟩ := HW1.out.push (at', b) (by have := HLe.out; omega) 22
          have HR8 := Hid.mk' hr8
          have HW8 := Hid.mk' hw8
          have HK8 := Hid.mk' hk8
          have HO8 := Hid.mk' ho8
          clear hr8 hw8 hk8 ho8
          have HX2 := Hid.mk' (HK8.out g10 _ HX1.out (by have := HG10.out; omega) (fun k hk => by have := HOwn.out k hk; omega))
          go_upto_region 10 with (first | (with_reducible refine isLoadR 40 ?_; refine wpList_ldR 40 Try.underlying40 rfl rfl _ rfl _ rfl _ 40 (0, 0) (by rw [blk_size]; exact size25) HL5.out ?_) | (with_reducible refine isBuildR 44 ?_; refine wpList_exec rfl (exec_build44R (p := at') (f := b) rfl rfl rfl) ?_) | (with_reducible refine isSlice ?_; refine wpList_exec rfl (exec_slice44 (c := (at', b)) rfl rfl) ?_) | (at_builtin; refine wpList_exec rfl (exec_push rfl rfl rfl HR8.out) ?_))
          generalize hX2 : V8.setCell ⟨w.heap.size + 1 + 1 + 1, 1, none⟩ (.slice p8 (acc.length + 1) c8) = X2
          replace hX2 : V8.setCell ⟨w.heap.size + 3, 1, none⟩ (.slice p8 (acc.length + 1) c8) = X2 := hX2
          rw [hX2] at HW8 HX2
          clear hX2 HK8
          have HE0 := Hid.mk' (show L = (acc ++ [(at', b)]) ++ ((if y = at' then [] else [(y, f)]) ++ laidGo at' b true (l.drop (k + 1))) ∧ (acc ++ [(at', b)]).length ≤ 2 * k + 1 from ⟨by rw [HA2.out.1]; simp [hp], by have := HA2.out.2; rw [List.length_append, List.length_singleton]; omega⟩)
          clear HLe c71 HA2 c78 f78 HR8 HO8
          generalize acc ++ [(at', b)] = acc2 at *
          have HE := Hid.mk' HE0.out
          have HLe := Hid.mk' (show acc2.length ≤ 2000001 by have := HE0.out.2; omega)
          have j2 : X2.cell? ⟨g10, 0, none⟩ = some (.int .i64 y) := (one_cel HX2.out).1
          have c72 : X2.cell? ⟨w.heap.size + 3, 1, none⟩ = some (.slice p8 acc2.length c8) := Joins.cell_of_block HW8.out.r7 1
          clear HE0 j1
          by_cases hy : y = at'
          · have HF := Hid.mk' (show L = acc2 ++ laidGo at' b true (l.drop (k + 1)) ∧ (acc2).length ≤ 2 * (k + 1) from ⟨by rw [HE.out.1, if_pos hy, List.nil_append], by have := HE.out.2; omega⟩)
            subst hy
            go_wp2
            first | exact ⟨⟨k + 1, by omega, by omega, p8, c8, acc2, HW8.out, HF.out⟩, by simp [intOf]; omega⟩ | exact ⟨⟨k + 1, _, p8, c8, acc2, by omega, rfl, by go_num, HW8.out, HF.out⟩, by simp [intOf]; omega⟩ | exact ⟨⟨k + 1, p8, c8, acc2, by omega, by go_num, HW8.out, HF.out⟩, by simp [intOf]; omega⟩
          · have HF := Hid.mk' (show L = (acc2 ++ [(y, f)]) ++ laidGo at' b true (l.drop (k + 1)) ∧ (acc2 ++ [(y, f)]).length ≤ 2 * (k + 1) from ⟨by rw [HE.out.1, if_neg hy, List.append_assoc], by have := HE.out.2; rw [List.length_append, List.length_singleton]; omega⟩)
            have HC10 := Hid.mk' (one_cel HX2.out)
            clear HE
            obtain ⟨p9, c9, V9, hr9, c79, f79, hw9, hk9, ho9⟩ := HW8.out.push (y, f) (by have := HLe.out; omega) 22
            have HR9 := Hid.mk' hr9
            have HW9 := Hid.mk' hw9
            have HK9 := Hid.mk' hk9
            have HO9 := Hid.mk' ho9
            clear hr9 hw9 hk9 ho9
            go_wp2_with (first | (with_reducible refine isLoadR 44 ?_; refine wpList_exec rfl (exec_load44 (c := (y, f)) rfl rfl HC10.out) ?_) | (with_reducible refine isSlice ?_; refine wpList_exec rfl (exec_slice44 (c := (y, f)) rfl rfl) ?_) | (at_builtin; refine wpList_exec rfl (exec_push rfl rfl rfl HR9.out) ?_))
            first | exact ⟨⟨k + 1, by omega, by omega, p9, c9, acc2 ++ [(y, f)], HW9.out, HF.out⟩, by simp [intOf]; omega⟩ | exact ⟨⟨k + 1, _, p9, c9, acc2 ++ [(y, f)], by omega, rfl, by go_num, HW9.out, HF.out⟩, by simp [intOf]; omega⟩ | exact ⟨⟨k + 1, p9, c9, acc2 ++ [(y, f)], by omega, by go_num, HW9.out, HF.out⟩, by simp [intOf]; omega⟩
        · have hpI : decide (at' ≤ y) = false := decide_eq_false hp
          have HE := Hid.mk' (show L = acc ++ ((if y = at' then [] else [(y, f)]) ++ laidGo at' b false (l.drop (k + 1))) ∧ acc.length ≤ 2 * k + 1 from ⟨by rw [HA2.out.1]; simp [hp], by have := HA2.out.2; omega⟩)
          clear HA2
          by_cases hy : y = at'
          · exact absurd (Int.le_of_eq hy.symm) hp
          · have HF := Hid.mk' (show L = (acc ++ [(y, f)]) ++ laidGo at' b false (l.drop (k + 1)) ∧ (acc ++ [(y, f)]).length ≤ 2 * (k + 1) from ⟨by rw [HE.out.1, if_neg hy, List.append_assoc], by have := HE.out.2; rw [List.length_append, List.length_singleton]; omega⟩)
            have HC10 := Hid.mk' (one_cel HX1.out)
            clear HE
            obtain ⟨p9, c9, V9, hr9, c79, f79, hw9, hk9, ho9⟩ := HW1.out.push (y, f) (by have := HLe.out; omega) 22
            have HR9 := Hid.mk' hr9
            have HW9 := Hid.mk' hw9
            have HK9 := Hid.mk' hk9
            have HO9 := Hid.mk' ho9
            clear hr9 hw9 hk9 ho9
            go_wp2_with (first | (with_reducible refine isLoadR 44 ?_; refine wpList_exec rfl (exec_load44 (c := (y, f)) rfl rfl HC10.out) ?_) | (with_reducible refine isSlice ?_; refine wpList_exec rfl (exec_slice44 (c := (y, f)) rfl rfl) ?_) | (at_builtin; refine wpList_exec rfl (exec_push rfl rfl rfl HR9.out) ?_))
            first | exact ⟨⟨k + 1, by omega, by omega, p9, c9, acc ++ [(y, f)], HW9.out, HF.out⟩, by simp [intOf]; omega⟩ | exact ⟨⟨k + 1, _, p9, c9, acc ++ [(y, f)], by omega, rfl, by go_num, HW9.out, HF.out⟩, by simp [intOf]; omega⟩ | exact ⟨⟨k + 1, p9, c9, acc ++ [(y, f)], by omega, by go_num, HW9.out, HF.out⟩, by simp [intOf]; omega⟩
      · have HE := Hid.mk' (show L = acc ++ ((if y = at' then [] else [(y, f)]) ++ laidGo at' b true (l.drop (k + 1))) ∧ acc.length ≤ 2 * k + 1 from ⟨by rw [HA2.out.1]; simp, by have := HA2.out.2; omega⟩)
        clear HA2
        by_cases hy : y = at'
        · have HF := Hid.mk' (show L = acc ++ laidGo at' b true (l.drop (k + 1)) ∧ (acc).length ≤ 2 * (k + 1) from ⟨by rw [HE.out.1, if_pos hy, List.nil_append], by have := HE.out.2; omega⟩)
          subst hy
          go_wp2
          first | exact ⟨⟨k + 1, by omega, by omega, p, c, acc, HW1.out, HF.out⟩, by simp [intOf]; omega⟩ | exact ⟨⟨k + 1, _, p, c, acc, by omega, rfl, by go_num, HW1.out, HF.out⟩, by simp [intOf]; omega⟩ | exact ⟨⟨k + 1, p, c, acc, by omega, by go_num, HW1.out, HF.out⟩, by simp [intOf]; omega⟩
        · have HF := Hid.mk' (show L = (acc ++ [(y, f)]) ++ laidGo at' b true (l.drop (k + 1)) ∧ (acc ++ [(y, f)]).length ≤ 2 * (k + 1) from ⟨by rw [HE.out.1, if_neg hy, List.append_assoc], by have := HE.out.2; rw [List.length_append, List.length_singleton]; omega⟩)
          have HC10 := Hid.mk' (one_cel HX1.out)
          clear HE
          obtain ⟨p9, c9, V9, hr9, c79, f79, hw9, hk9, ho9⟩ := HW1.out.push (y, f) (by have := HLe.out; omega) 22
          have HR9 := Hid.mk' hr9
          have HW9 := Hid.mk' hw9
          have HK9 := Hid.mk' hk9
          have HO9 := Hid.mk' ho9
          clear hr9 hw9 hk9 ho9
          go_wp2_with (first | (with_reducible refine isLoadR 44 ?_; refine wpList_exec rfl (exec_load44 (c := (y, f)) rfl rfl HC10.out) ?_) | (with_reducible refine isSlice ?_; refine wpList_exec rfl (exec_slice44 (c := (y, f)) rfl rfl) ?_) | (at_builtin; refine wpList_exec rfl (exec_push rfl rfl rfl HR9.out) ?_))
          first | exact ⟨⟨k + 1, by omega, by omega, p9, c9, acc ++ [(y, f)], HW9.out, HF.out⟩, by simp [intOf]; omega⟩ | exact ⟨⟨k + 1, _, p9, c9, acc ++ [(y, f)], by omega, rfl, by go_num, HW9.out, HF.out⟩, by simp [intOf]; omega⟩ | exact ⟨⟨k + 1, p9, c9, acc ++ [(y, f)], by omega, by go_num, HW9.out, HF.out⟩, by simp [intOf]; omega⟩
    · obtain rfl : k = N := by omega
      clear hk2 hk
      have hA := HA.out.1
      rw [List.drop_of_length_le (by have := HN.out; omega), laidGo_nil] at hA
      have HLe := Hid.mk' (show acc.length ≤ 2000000 by have := HA.out.2; omega)
      have c71 : wr.cell? ⟨w.heap.size + 3, 1, none⟩ = some (.slice p acc.length c) := Joins.cell_of_block HW.out.r7 1
      have HL5 := Hid.mk' HW.out.r5
      cases dn
      · have hL : L = acc ++ [(at', b)] := by rw [hA]; rfl
        clear hA HA
        subst hL
        obtain ⟨p8, c8, V8, hr8, c78, f78, hw8, hk8, ho8⟩ := HW.out.push (at', b) (by have := HLe.out; omega) 22
        have HR8 := Hid.mk' hr8
        have HW8 := Hid.mk' hw8
        clear hr8 hw8 hk8 ho8
        go_upto_region 14 with (first | (with_reducible refine isLoadR 40 ?_; refine wpList_ldR 40 Try.underlying40 rfl rfl _ rfl _ rfl _ 40 (0, 0) (by rw [blk_size]; exact size25) HL5.out ?_) | (with_reducible refine isBuildR 44 ?_; refine wpList_exec rfl (exec_build44R (p := at') (f := b) rfl rfl rfl) ?_) | (with_reducible refine isSlice ?_; refine wpList_exec rfl (exec_slice44 (c := (at', b)) rfl rfl) ?_) | (at_builtin; refine wpList_exec rfl (exec_push rfl rfl rfl HR8.out) ?_))
        generalize hX2 : V8.setCell ⟨w.heap.size + 1 + 1 + 1, 1, none⟩ (.slice p8 (acc.length + 1) c8) = X2
        replace hX2 : V8.setCell ⟨w.heap.size + 3, 1, none⟩ (.slice p8 (acc.length + 1) c8) = X2 := hX2
        rw [hX2] at HW8
        clear hX2 c71 c78 f78 HR8 HL5 c31 HLe
        have HNew : Hid (∀ b1 o1, p8 = some ⟨b1, o1, none⟩ → w.heap.size ≤ b1) := by
          obtain ⟨p2, c2, hv, _, _, hp2⟩ := HW8.out.hl.img
          injection hv with e1 e2 e3
          intro b1 o1 q
          have := (hp2 b1 o1 (e1 ▸ q)).1
          omega
        have d70 : X2.cell? ⟨w.heap.size + 3, 0, none⟩ = some (.int .i64 n) := Joins.cell_of_block HW8.out.r7 0
        have d71 : X2.cell? ⟨w.heap.size + 3, 1, none⟩ = some (.slice p8 (acc.length + 1) c8) := by have := Joins.cell_of_block HW8.out.r7 1; rw [List.length_append, List.length_singleton] at this; exact this
        have H6 : Hid (X2.heap[w.heap.size + 1 + 1]? = some (.cells #[.int .i64 0, .slice none 0 0] 24)) := HW8.out.r6
        have d60 : X2.cell? ⟨w.heap.size + 1 + 1, 0, none⟩ = some (.int .i64 0) := Joins.cell_of_block H6.out 0
        have d61 : X2.cell? ⟨w.heap.size + 1 + 1, 1, none⟩ = some (.slice none 0 0) := Joins.cell_of_block H6.out 1
        have f60 : X2.frozen? ⟨w.heap.size + 1 + 1, 0, none⟩ = false := Joins.unfrozen_of_block H6.out 0
        have f61 : X2.frozen? ⟨w.heap.size + 1 + 1, 1, none⟩ = false := Joins.unfrozen_of_block H6.out 1
        have HWW : Hid (((X2.setCell ⟨w.heap.size + 1 + 1, 0, none⟩ (.int .i64 n)).setCell ⟨w.heap.size + 1 + 1, 1, none⟩ (.slice p8 (acc.length + 1) c8)).heap[w.heap.size + 1 + 1]? = some (.cells #[.int .i64 n, .slice p8 (acc.length + 1) c8] 24)) := heap_setCell_same _ _ 1 _ 24 _ (heap_setCell_same X2 _ 0 _ 24 _ H6.out)
        have HOO : Hid (∀ g, g ≠ w.heap.size + 1 + 1 → ((X2.setCell ⟨w.heap.size + 1 + 1, 0, none⟩ (.int .i64 n)).setCell ⟨w.heap.size + 1 + 1, 1, none⟩ (.slice p8 (acc.length + 1) c8)).heap[g]? = X2.heap[g]?) := fun g hg => (heap_setCell_other _ _ _ _ hg).trans (heap_setCell_other _ _ _ _ hg)
        have HBB : Hid (Below w.heap.size w ((X2.setCell ⟨w.heap.size + 1 + 1, 0, none⟩ (.int .i64 n)).setCell ⟨w.heap.size + 1 + 1, 1, none⟩ (.slice p8 (acc.length + 1) c8))) := (HW8.out.bel.setCell (show w.heap.size ≤ w.heap.size + 1 + 1 by omega) _).setCell (show w.heap.size ≤ w.heap.size + 1 + 1 by omega) _
        have HSZ : Hid (X2.heap.size ≤ ((X2.setCell ⟨w.heap.size + 1 + 1, 0, none⟩ (.int .i64 n)).setCell ⟨w.heap.size + 1 + 1, 1, none⟩ (.slice p8 (acc.length + 1) c8)).heap.size) := by show _ ≤ _; simp
        go_wp2
        generalize ((X2.setCell ⟨w.heap.size + 1 + 1, 0, none⟩ (.int .i64 n)).setCell ⟨w.heap.size + 1 + 1, 1, none⟩ (.slice p8 (acc.length + 1) c8)) = W5 at *
        refine ret32 rfl (w.heap.size + 1 + 1) #[.int .i64 n, .slice p8 (acc.length + 1) c8] rfl HWW.out rfl rfl ⟨p8, c8, by rw [List.length_append, List.length_singleton], ?_, fun b1 o1 q => HNew.out b1 o1 q, HBB.out⟩
        obtain ⟨p2, c2, hv, hi, _, hp2⟩ := HW8.out.hl.img
        injection hv with e1 e2 e3
        subst e1
        intro h0
        obtain ⟨b1, o1, h1, h2, h3⟩ := hi h0
        refine ⟨b1, o1, h1, Nat.lt_of_lt_of_le h2 HSZ.out, fun j x hx => ?_⟩
        have hne : b1 ≠ w.heap.size + 1 + 1 := by have := (hp2 b1 o1 h1).1; omega
        obtain ⟨y1, y2⟩ := h3 j x hx
        have hblk := HOO.out b1 hne
        exact ⟨(World.cell?_of_block (a := ⟨b1, o1 + j * 1025, none⟩) hblk).trans y1, fun i v hv => (World.cell?_of_block (a := ⟨b1, o1 + j * 1025 + 1 + i, none⟩) hblk).trans (y2 i v hv)⟩
      · have hL : L = acc := by rw [hA]; simp
        clear hA HA
        subst hL
        go_upto_region 14 with fail
        clear c71 HL5 c31 HLe
        have HNew : Hid (∀ b1 o1, p = some ⟨b1, o1, none⟩ → w.heap.size ≤ b1) := by
          obtain ⟨p2, c2, hv, _, _, hp2⟩ := HW.out.hl.img
          injection hv with e1 e2 e3
          intro b1 o1 q
          have := (hp2 b1 o1 (e1 ▸ q)).1
          omega
        have d70 : wr.cell? ⟨w.heap.size + 3, 0, none⟩ = some (.int .i64 n) := Joins.cell_of_block HW.out.r7 0
        have d71 : wr.cell? ⟨w.heap.size + 3, 1, none⟩ = some (.slice p L.length c) := Joins.cell_of_block HW.out.r7 1
        have H6 : Hid (wr.heap[w.heap.size + 1 + 1]? = some (.cells #[.int .i64 0, .slice none 0 0] 24)) := HW.out.r6
        have d60 : wr.cell? ⟨w.heap.size + 1 + 1, 0, none⟩ = some (.int .i64 0) := Joins.cell_of_block H6.out 0
        have d61 : wr.cell? ⟨w.heap.size + 1 + 1, 1, none⟩ = some (.slice none 0 0) := Joins.cell_of_block H6.out 1
        have f60 : wr.frozen? ⟨w.heap.size + 1 + 1, 0, none⟩ = false := Joins.unfrozen_of_block H6.out 0
        have f61 : wr.frozen? ⟨w.heap.size + 1 + 1, 1, none⟩ = false := Joins.unfrozen_of_block H6.out 1
        have HWW : Hid (((wr.setCell ⟨w.heap.size + 1 + 1, 0, none⟩ (.int .i64 n)).setCell ⟨w.heap.size + 1 + 1, 1, none⟩ (.slice p L.length c)).heap[w.heap.size + 1 + 1]? = some (.cells #[.int .i64 n, .slice p L.length c] 24)) := heap_setCell_same _ _ 1 _ 24 _ (heap_setCell_same wr _ 0 _ 24 _ H6.out)
        have HOO : Hid (∀ g, g ≠ w.heap.size + 1 + 1 → ((wr.setCell ⟨w.heap.size + 1 + 1, 0, none⟩ (.int .i64 n)).setCell ⟨w.heap.size + 1 + 1, 1, none⟩ (.slice p L.length c)).heap[g]? = wr.heap[g]?) := fun g hg => (heap_setCell_other _ _ _ _ hg).trans (heap_setCell_other _ _ _ _ hg)
        have HBB : Hid (Below w.heap.size w ((wr.setCell ⟨w.heap.size + 1 + 1, 0, none⟩ (.int .i64 n)).setCell ⟨w.heap.size + 1 + 1, 1, none⟩ (.slice p L.length c))) := (HW.out.bel.setCell (show w.heap.size ≤ w.heap.size + 1 + 1 by omega) _).setCell (show w.heap.size ≤ w.heap.size + 1 + 1 by omega) _
        have HSZ : Hid (wr.heap.size ≤ ((wr.setCell ⟨w.heap.size + 1 + 1, 0, none⟩ (.int .i64 n)).setCell ⟨w.heap.size + 1 + 1, 1, none⟩ (.slice p L.length c)).heap.size) := by show _ ≤ _; simp
        go_wp2
        generalize ((wr.setCell ⟨w.heap.size + 1 + 1, 0, none⟩ (.int .i64 n)).setCell ⟨w.heap.size + 1 + 1, 1, none⟩ (.slice p L.length c)) = W5 at *
        refine ret32 rfl (w.heap.size + 1 + 1) #[.int .i64 n, .slice p L.length c] rfl HWW.out rfl rfl ⟨p, c, rfl, ?_, fun b1 o1 q => HNew.out b1 o1 q, HBB.out⟩
        obtain ⟨p2, c2, hv, hi, _, hp2⟩ := HW.out.hl.img
        injection hv with e1 e2 e3
        subst e1
        intro h0
        obtain ⟨b1, o1, h1, h2, h3⟩ := hi h0
        refine ⟨b1, o1, h1, Nat.lt_of_lt_of_le h2 HSZ.out, fun j x hx => ?_⟩
        have hne : b1 ≠ w.heap.size + 1 + 1 := by have := (hp2 b1 o1 h1).1; omega
        obtain ⟨y1, y2⟩ := h3 j x hx
        have hblk := HOO.out b1 hne
        exact ⟨(World.cell?_of_block (a := ⟨b1, o1 + j * 1025, none⟩) hblk).trans y1, fun i v hv => (World.cell?_of_block (a := ⟨b1, o1 + j * 1025 + 1 + i, none⟩) hblk).trans (y2 i v hv)⟩
end Go.Proofs.Ytbnbbelkddbndaa
