/- Several texts joined, each with its own remark; no condition. -/
import Derived.Test.YtkcgbhagjkhcmaaGreatK26
import Derived.Test.YtkcgbhagjkhcmaaGreatK5
import Derived.Test.YtkcgbhagjkhcmaaGreatQWLNew
/- The document's disk read and claimed. -/
namespace Go.Proofs.YtkcgbhagjkhcmaaGreat
open Go.RowKit Go.Maps
set_option maxRecDepth 20000 in
set_option maxHeartbeats 1000000 in
theorem at04_any (l : List Cel) (p : Option Addr) (cap : Nat) (k : Int) (w : World) (hl : l.length < 4611686018427387904) (h : ImgAt w p l) :
    Calls Tryz.prog 140 #[.slice p l.length cap, .int .i64 k] w fun e w' => e = .returned (.agg (blk (atL l k))) ∧ Below w.heap.size w w' := by
  have z := zero77
  have HI : Hid (ImgAt w p l) := h
  obtain ⟨N, hN⟩ : ∃ N, l.length = N := ⟨_, rfl⟩
  have HN : Hid (l.length = N) := hN
  rw [hN] at hl ⊢
  clear h hN
  generalize hR : atL l k = R
  have HR : Hid (atL (l.drop 0) k = R) := hR
  clear hR
  have HX : Hid ((w.alloc (.cells (blk nought) 76)).heap[w.heap.size]? = some (.cells (blk nought) 76)) := heap_alloc_new _ _
  have HB1 : Hid (Below w.heap.size w (w.alloc (.cells (blk nought) 76))) := below_new _ _
  go_enter Tryz.func140, Tryz.ntmps140
  go_wp2
  generalize w.alloc (.cells (blk nought) 76) = V at *
  go_loopw [5] (fun s5 wx => ∃ j : Nat, j ≤ N ∧ s5 = .int .i64 j ∧ wx = V ∧ Hid (atL (l.drop j) k = R)) (fun s5 _ => N - (intOf s5).toNat)
  case atStart => exact ⟨0, by omega, rfl, rfl, HR.out⟩
  case round =>
    clear HR
    obtain ⟨j, hj, rfl, rfl, HR⟩ := hrel
    by_cases hj2 : (j : Int) < N
    · have hnn := HN.out
      have hc : l[j]? = some l[j] := List.getElem?_eq_getElem (by omega)
      have hd : l.drop j = l[j] :: l.drop (j + 1) := List.drop_eq_getElem_cons (by omega)
      obtain ⟨b, off, rfl, hlt, hC⟩ := HI.out (by omega)
      obtain ⟨a0, a1⟩ := hC j _ hc
      generalize l[j] = c at *
      obtain ⟨y, f⟩ := c
      have q0 : wr.cell? ⟨b, off + j * 1025, none⟩ = some (.int .i64 y) := (HB1.out.cell (p := ⟨b, off + j * 1025, none⟩) hlt).trans a0
      have q1 : NumsAt wr .u8 b (off + j * 1025 + 1) f 1024 := a1.later HB1.out hlt
      have hr := HR.out
      rw [hd, atL] at hr
      clear hC a0 a1 hc hd hnn HR
      by_cases hy : y = k
      · rw [if_pos hy] at hr
        have g0 : (y == k) = true := by simp [hy]
        subst hr
        clear hy
        have hx := HX.out
        go_wp2_with (first | (with_reducible refine isLoadR 76 ?_; refine wpList_ldB rfl (.tmp 22) rfl b (off + j * 1025 + 1) f rfl q1 ?_) | (with_reducible refine isStoreR 76 ?_; refine wpList_stB rfl (.tmp 4) (.tmp 23) rfl w.heap.size f nought 76 rfl rfl hx ?_))
        exact retB rfl w.heap.size f 76 rfl (setRow_heap _ _ _ _ _ _ hx) rfl ⟨rfl, HB1.out.trans ((Fr.setRow wr w.heap.size (blk f)).below (fun i hi => by omega) HB1.out.size)⟩
      · rw [if_neg hy] at hr
        have g0 : (y == k) = false := by simp [hy]
        have HR2 : Hid (atL (l.drop (j + 1)) k = R) := hr
        clear hy hr q1
        go_wp2
        exact ⟨⟨j + 1, by omega, by go_num, trivial, HR2.out⟩, by simp [intOf]; omega⟩
    · have hr := HR.out
      rw [List.drop_of_length_le (by rw [HN.out]; omega), atL] at hr
      have HR2 : Hid (nought = R) := hr
      clear hr HR
      have hx := HX.out
      go_wp2_with (first | (with_reducible refine isBuildR 76 ?_; refine wpList_buildB rfl rfl ?_) | (with_reducible refine isStoreR 76 ?_; refine wpList_stB rfl (.tmp 4) (.tmp 24) rfl w.heap.size nought nought 76 rfl rfl hx ?_))
      exact retB rfl w.heap.size nought 76 rfl (setRow_heap _ _ _ _ _ _ hx) rfl ⟨by rw [HR2.out], HB1.out.trans ((Fr.setRow wr w.heap.size (blk nought)).below (fun i hi => by omega) HB1.out.size)⟩
set_option maxHeartbeats 400000 in
theorem len04_any {w : World} {g : Nat} {n : Int} {v : Value} {a b c : Int} (h : w.heap[g]? = some (.cells (d4Row n v a b c) 124)) : Calls Tryz.prog 139 #[.pointer (some ⟨g, 0, none⟩)] w fun e w' => e = .returned (.int .i64 n) ∧ w' = w := by
  have c0 : w.cell? ⟨g, 0, none⟩ = some (.int .i64 n) := Joins.cell_of_block h 0
  clear h
  go_enter Tryz.func139, Tryz.ntmps139
  go_wp2
  go_ret
  exact ⟨rfl, rfl⟩
set_option maxHeartbeats 1000000 in
theorem claim04_ok {w : World} {g : Nat} {n : Int} {v : Value} {a b c : Int} (h : w.heap[g]? = some (.cells (d4Row n v a b c) 124)) (hb : 0 ≤ b ∧ b ≤ 1000000) : Calls Tryz.prog 57 #[.pointer (some ⟨g, 0, none⟩)] w fun e w' => e = .returned (.int .i64 (b + 1)) ∧ w'.heap[g]? = some (.cells (d4Row n v a (b + 1) (b + 1)) 124) ∧ Fr (fun k => k = g) w w' := by
  have c5 : w.cell? ⟨g, 5, none⟩ = some (.bool false) := Joins.cell_of_block h 5
  have c9 : w.cell? ⟨g, 9, none⟩ = some (.int .i64 b) := Joins.cell_of_block h 9
  have f9 := frozen_row h 9
  have e1 : IntKind.i64.wrap (b + 1) = b + 1 := by rw [IntKind.wrap_i64]; omega
  have h1 : (w.setCell ⟨g, 9, none⟩ (.int .i64 (b + 1))).heap[g]? = some (.cells (d4Row n v a (b + 1) c) 124) := by rw [heap_setCell_same _ _ _ _ _ _ h]; rfl
  have HF1 : Hid _ := Fr.setCell w g 9 (.int .i64 (b + 1))
  have H1 : Hid _ := h1
  clear h h1
  go_enter Tryz.func57, Tryz.ntmps57
  go_upto_region 4 with fail
  generalize w.setCell ⟨g, 9, none⟩ (.int .i64 (b + 1)) = X at *
  clear c5 c9 f9
  have c9 : X.cell? ⟨g, 9, none⟩ = some (.int .i64 (b + 1)) := Joins.cell_of_block H1.out 9
  have c10 : X.cell? ⟨g, 10, none⟩ = some (.int .i64 c) := Joins.cell_of_block H1.out 10
  have f10 := frozen_row H1.out 10
  have h2 : (X.setCell ⟨g, 10, none⟩ (.int .i64 (b + 1))).heap[g]? = some (.cells (d4Row n v a (b + 1) (b + 1)) 124) := by rw [heap_setCell_same _ _ _ _ _ _ H1.out]; rfl
  have H2 : Hid _ := h2
  have HF2 : Hid _ := Fr.trans HF1.out (Fr.setCell X g 10 (.int .i64 (b + 1))) (fun _ _ q => q)
  clear h2 H1 HF1
  go_upto_region 5 with fail
  generalize X.setCell ⟨g, 10, none⟩ (.int .i64 (b + 1)) = Y at *
  clear c9 c10 f10
  have c9 : Y.cell? ⟨g, 9, none⟩ = some (.int .i64 (b + 1)) := Joins.cell_of_block H2.out 9
  go_wp2
  go_ret
  exact ⟨rfl, H2.out, HF2.out⟩
end Go.Proofs.YtkcgbhagjkhcmaaGreat
/- The document's disk read at a block; its log's header. -/
namespace Go.Proofs.YtkcgbhagjkhcmaaGreat
open Go.RowKit Go.Maps
set_option maxRecDepth 20000 in
set_option maxHeartbeats 2000000 in
theorem read04_ok {w : World} {g B : Nat} {n : Int} {v : Value} {l : List Cel} {a b c : Int} (h : w.heap[g]? = some (.cells (d4Row n v a b c) 124)) (ho : OwnH w B v l) (hl : l.length ≤ 1048576) (ha : 0 ≤ a ∧ a ≤ 1000000) (k : Int) (hk : 0 ≤ k ∧ k < n) :
    Calls Tryz.prog 94 #[.pointer (some ⟨g, 0, none⟩), .int .i64 k] w fun e w' => e = .returned (.tuple #[.agg (blk (atL l k)), .int .i64 0]) ∧ w'.heap[g]? = some (.cells (d4Row n v (a + 1) b c) 124) ∧ OwnH w' B v l ∧ Fr (fun q => q = g) w w' := by
  have z := zero77
  have hgw : g < w.heap.size := (Array.getElem?_eq_some_iff.1 h).1
  have hA1 := heap_kept h (below_new w (.cells (blk nought) 76))
  have hA2 := heap_alloc_new w (.cells (blk nought) 76)
  have hoA : OwnH (w.alloc (.cells (blk nought) 76)) B v l := OwnG.later ho (below_new _ _)
  have HFA : Hid (Fr (fun q => q = g) w (w.alloc (.cells (blk nought) 76))) := Fr.ofBelow (below_new _ _)
  clear h ho
  have HgV : Hid (g < w.heap.size) := hgw
  go_enter Tryz.func94, Tryz.ntmps94
  go_upto_region 1 with fail
  generalize w.alloc (.cells (blk nought) 76) = V at *
  have c5 : V.cell? ⟨g, 5, none⟩ = some (.bool false) := Joins.cell_of_block hA1 5
  have c0 : V.cell? ⟨g, 0, none⟩ = some (.int .i64 n) := Joins.cell_of_block hA1 0
  have c8 : V.cell? ⟨g, 8, none⟩ = some (.int .i64 a) := Joins.cell_of_block hA1 8
  have f8 := frozen_row hA1 8
  have e1 : IntKind.i64.wrap (a + 1) = a + 1 := by rw [IntKind.wrap_i64]; omega
  have t1 : decide (k < 0) = false := decide_eq_false (by omega)
  have t2 : decide (n ≤ k) = false := decide_eq_false (by omega)
  have hS := Fr.setCell V g 8 (.int .i64 (a + 1))
  have H1 : Hid ((V.setCell ⟨g, 8, none⟩ (.int .i64 (a + 1))).heap[g]? = some (.cells (d4Row n v (a + 1) b c) 124)) := by rw [heap_setCell_same _ _ _ _ _ _ hA1]; rfl
  have H2 : Hid ((V.setCell ⟨g, 8, none⟩ (.int .i64 (a + 1))).heap[w.heap.size]? = some (.cells (blk nought) 76)) := (hS.block _ (Array.getElem?_eq_some_iff.1 hA2).1 (by omega)).trans hA2
  have H3 : Hid (OwnH (V.setCell ⟨g, 8, none⟩ (.int .i64 (a + 1))) B v l) := own_frame hoA hS fun q hq hT => own_ne hoA hA1 (by decide) (hT ▸ hq)
  have H4 : Hid (Fr (fun q => q = g) w (V.setCell ⟨g, 8, none⟩ (.int .i64 (a + 1)))) := Fr.trans HFA.out hS fun _ _ q => q
  clear hS hA1 hA2 hoA HFA
  go_upto_region 8 with fail
  generalize V.setCell ⟨g, 8, none⟩ (.int .i64 (a + 1)) = X at *
  clear c5 c0 c8 f8 t1 t2
  obtain ⟨pv, cv, rfl, himg⟩ := OwnH.img H3.out
  have d2 : X.cell? ⟨g, 2, none⟩ = some (.slice none 0 0) := Joins.cell_of_block H1.out 2
  have d1 : X.cell? ⟨g, 1, none⟩ = some (.slice pv l.length cv) := Joins.cell_of_block H1.out 1
  have hat := at04_any l pv cv k X (by omega) himg
  clear himg
  obtain ⟨F, hFF⟩ : ∃ F, atL l k = F := ⟨_, rfl⟩
  obtain ⟨LL, hLL⟩ : ∃ LL, l.length = LL := ⟨_, rfl⟩
  have HFF : Hid (atL l k = F) := hFF
  have HLL : Hid (l.length = LL) := hLL
  rw [hFF, hLL] at hat
  rw [hLL] at d1 H1 H3 hl
  clear hFF hLL
  go_wp2
  go_loopw [6] (fun s6 wx => s6 = .int .i64 (-1) ∧ wx = X) (fun _ _ => 0)
  case atStart => exact ⟨by go_num, rfl⟩
  case round =>
    obtain ⟨rfl, rfl⟩ := hrel
    go_wp2_with (first | (go_at_call 140; fail))
    refine hat.mono ?_
    rintro e Y ⟨rfl, hbY⟩
    have K1 : Hid _ := heap_kept H1.out hbY
    have k2 := heap_kept H2.out hbY
    have K3 : Hid (OwnH Y B (.slice pv LL cv) l) := OwnG.later H3.out hbY
    have K4 : Hid (Fr (fun q => q = g) w Y) := Fr.trans H4.out (Fr.ofBelow (T := fun q => q = g) hbY) fun _ _ q => q
    clear hat hbY H1 H2 H3 H4 d1 d2
    go_wp2_with (first | (with_reducible refine isStoreR 76 ?_; refine wpList_stB rfl (.tmp 4) (.tmp 67) rfl w.heap.size F nought 76 rfl rfl k2 ?_))
    have hF := Fr.setRow Y w.heap.size (blk F)
    exact retCT Tryz.underlying76 rfl rfl w.heap.size (blk F) 76 (by rw [blk_size]; exact size77) rfl (setRow_heap _ _ _ _ _ _ k2) rfl (by rw [HFF.out, HLL.out]; exact ⟨rfl, (hF.block _ (Array.getElem?_eq_some_iff.1 K1.out).1 (by have := HgV.out; omega)).trans K1.out, own_frame K3.out hF fun q hq hT => own_ne K3.out k2 (by decide) (hT ▸ hq), Fr.trans K4.out hF fun q hq hT => by omega⟩)
end Go.Proofs.YtkcgbhagjkhcmaaGreat
/- The document's log on a disk whose header is empty. -/
namespace Go.Proofs.YtkcgbhagjkhcmaaGreat
open Go.RowKit Go.Maps
set_option maxRecDepth 20000 in
set_option maxHeartbeats 2000000 in
theorem may08_ok {w : World} {g b l i : Nat} {n : Int} {v : Value} {a' b' c' : Int} (hg : GeoOk b l i) (hn : (b : Int) ≤ n) (h : w.heap[g]? = some (.cells (d4Row n v a' b' c') 124)) :
    Calls Tryz.prog 93 #[.pointer (some ⟨g, 0, none⟩), .agg (layRow (layOf b l i))] w fun e w' => e = .returned (.bool true) ∧ Below w.heap.size w w' := by
  have hfit := fun W => fits03_ok hg W
  have HFit : Hid _ := hfit
  clear hfit
  have Hyb : Hid ((layOf b l i).b = (b : Int)) := rfl
  generalize layOf b l i = y at *
  have HX : Hid _ := heap_alloc_new w (.cells (layRow y) 49)
  have HB : Hid _ := below_new w (.cells (layRow y) 49)
  have HD : Hid _ := heap_kept h (below_new w (.cells (layRow y) 49))
  clear h
  go_enter Tryz.func93, Tryz.ntmps93
  go_upto_region 1 with fail
  generalize w.alloc (.cells (layRow y) 49) = V at *
  have hf := HFit.out V
  go_wp2_with (first | (with_reducible refine isLoadR 49 ?_; refine wpList_ldR 49 Tryz.underlying49 rfl rfl (.tmp 3) rfl w.heap.size rfl (layRow y) 49 (0, 0) (lay_info _) HX.out ?_) | (go_at_call 84; fail))
  refine hf.mono ?_
  rintro e X ⟨rfl, hbX⟩
  have HX2 : Hid _ := heap_kept HX.out hbX
  have HD2 : Hid _ := heap_kept HD.out hbX
  have HB2 : Hid _ := below_next HB.out hbX
  clear hf hbX HX HD HB
  go_upto_region 2 with fail
  have c0 : X.drew.cell? ⟨w.heap.size, 0, none⟩ = some (.int .i64 (b : Int)) := by rw [← Hyb.out]; exact Joins.cell_of_block HX2.out 0
  have HDd : Hid (X.drew.heap[g]? = _) := HD2.out
  have hlen := len04_any HDd.out
  have HBd : Hid (Below w.heap.size w X.drew) := HB2.out.drew
  have t1 : decide ((b : Int) ≤ n) = true := decide_eq_true hn
  refine wp_region_ord (S := fun u => u.cell? ⟨w.heap.size, 0, none⟩ = some (.int .i64 (b : Int))) [(0, true), (1, true), (2, true), (3, true), (4, true), (5, true), (6, false), (7, true), (8, true), (9, true)] (by kernel_rfl) rfl (by kernel_rfl) (fun d _ _ _ _ h => by cases d <;> exact h) c0 ?_
  simp only [inOrd, List.getElem?_cons_zero, List.getElem?_cons_succ]
  refine wpOrd_yield (v := .bool true) rfl (fun u _ => exec_mv rfl rfl) ?_
  simp only [Act.put, List.setIfInBounds_toArray, List.set_cons_succ, List.set_cons_zero]
  refine wpOrd_yield (v := .bool true) rfl (fun u _ => exec_mv rfl rfl) ?_
  simp only [Act.put, List.setIfInBounds_toArray, List.set_cons_succ, List.set_cons_zero]
  refine wpOrd_yield (v := .pointer (some ⟨w.heap.size, 0, none⟩)) rfl (fun u _ => by go_simp) ?_
  simp only [Act.put, List.setIfInBounds_toArray, List.set_cons_succ, List.set_cons_zero]
  refine wpOrd_yield (v := .pointer (some ⟨w.heap.size, 0, none⟩)) rfl (fun u _ => by go_simp) ?_
  simp only [Act.put, List.setIfInBounds_toArray, List.set_cons_succ, List.set_cons_zero]
  refine wpOrd_yield (v := .int .i64 (b : Int)) rfl (fun u hu => by have := hu; go_simp) ?_
  simp only [Act.put, List.setIfInBounds_toArray, List.set_cons_succ, List.set_cons_zero]
  refine wpOrd_yield (v := .pointer (some ⟨g, 0, none⟩)) rfl (fun u _ => exec_mv rfl rfl) ?_
  simp only [Act.put, List.setIfInBounds_toArray, List.set_cons_succ, List.set_cons_zero]
  refine wpOrd_call rfl 139 _ _ rfl Tryz.call139 [.pointer (some ⟨g, 0, none⟩)] rfl ?_
  refine hlen.mono ?_
  rintro e Y ⟨rfl, rfl⟩
  refine ⟨_, rfl, c0, ?_⟩
  simp only [Act.put, List.setIfInBounds_toArray, List.set_cons_succ, List.set_cons_zero]
  refine wpOrd_yield (v := .bool true) rfl (fun u _ => by go_simp) ?_
  simp only [Act.put, List.setIfInBounds_toArray, List.set_cons_succ, List.set_cons_zero]
  refine wpOrd_yield (v := .bool true) rfl (fun u _ => by go_simp) ?_
  simp only [Act.put, List.setIfInBounds_toArray, List.set_cons_succ, List.set_cons_zero]
  refine wpOrd_yield (v := .bool true) rfl (fun u _ => by go_simp) ?_
  simp only [Act.put, List.setIfInBounds_toArray, List.set_cons_succ, List.set_cons_zero]
  refine wpOrd_nil ?_
  clear c0 hlen HDd HX2 HD2 HB2
  generalize X.drew = Z at *
  go_wp2
  go_ret
  exact ⟨rfl, HBd.out⟩
theorem blk_info (f : Nat → Int) : (Tryz.prog.info? 76).map (·.size) = some (blk f).size := by rw [blk_size]; exact size77
theorem blk_one (f : Nat → Int) : (blk f).all (·.oneCell') = true := rowN_one _ _ _
theorem blk_two (f g : Nat → Int) : (blk f).size = (blk g).size := by rw [blk_size, blk_size]
/-- What a header's reading leaves: the disk with one reading more, all else as it was. -/
structure HdL (w w' : World) (g B : Nat) (n : Int) (v : Value) (l : List Cel) (a b c : Int) : Prop where
  row : w'.heap[g]? = some (.cells (d4Row n v a b c) 124)
  own : OwnH w' B v l
  fr : Fr (fun q => q = g) w w'
theorem HdL.call {w W W' : World} {g B : Nat} {n : Int} {v : Value} {l : List Cel} {a b c : Int} (h : HdL w W g B n v l a b c) (hb : Below W.heap.size W W') : HdL w W' g B n v l a b c := ⟨heap_kept h.row hb, OwnG.later h.own hb, Fr.trans h.fr (Fr.ofBelow (T := fun q => q = g) hb) fun _ _ q => q⟩
set_option maxRecDepth 20000 in
set_option maxHeartbeats 4000000 in
theorem header08_ok {w : World} {g B b l i : Nat} {n : Int} {v : Value} {im : List Cel} {a' b' c' : Int} (hs : SupOk b l i im) (hn : (b : Int) ≤ n) (h : HdL w w g B n v im a' b' c') (hl : im.length ≤ 1048576) (ha : 0 ≤ a' ∧ a' ≤ 1000000) :
    Calls Tryz.prog 56 #[.pointer (some ⟨g, 0, none⟩), .agg (layRow (layOf b l i))] w fun e w' => e = .returned (.tuple #[.agg hd0, .int .i64 0]) ∧ HdL w w' g B n v im (a' + 1) b' c' := by
  have zh := zeroHd
  have zb := zero77
  have hgw : g < w.heap.size := (Array.getElem?_eq_some_iff.1 h.row).1
  have hb1 := hs.geo.b1
  have hfit := hs.geo.fit
  have HMay : Hid (∀ W, W.heap[g]? = some (.cells (d4Row n v a' b' c') 124) → Calls Tryz.prog 93 #[.pointer (some ⟨g, 0, none⟩), .agg (layRow (layOf b l i))] W fun e w' => e = .returned (.bool true) ∧ Below W.heap.size W w') := fun W hW => may08_ok hs.geo hn hW
  have HDec : Hid _ := fun W => dec07_none hs.geo (atL im 1) hs.head W
  have HyL : Hid ((layOf b l i).logAt = 1) := rfl
  clear hs
  generalize layOf b l i = y at *
  obtain ⟨A, hA⟩ : ∃ A, A = (w.alloc (.cells (layRow y) 49)).alloc (.cells hd0 126) := ⟨_, rfl⟩
  have HL : Hid (A.heap[w.heap.size]? = some (.cells (layRow y) 49)) := by rw [hA]; exact heap_kept (heap_alloc_new _ _) (below_new _ _)
  have HR : Hid (A.heap[w.heap.size + 1]? = some (.cells hd0 126)) := by rw [hA]; exact heap_two _ _ _
  have HD : Hid (HdL w A g B n v im a' b' c') := by rw [hA]; exact (h.call (below_new _ _)).call (below_new _ _)
  have HA : Hid (A = _) := hA
  clear hA h
  go_enter Tryz.func56, Tryz.ntmps56
  go_upto_region 1 with fail
  rw [← HA.out]
  clear HA
  have hmay := HMay.out A HD.out.row
  go_wp2_with (first | (with_reducible refine isLoadR 49 ?_; refine wpList_ldR 49 Tryz.underlying49 rfl rfl (.tmp 3) rfl w.heap.size rfl (layRow y) 49 (0, 0) (lay_info _) HL.out ?_) | (go_at_call 93; fail))
  refine hmay.mono ?_
  rintro e X ⟨rfl, hbX⟩
  have HL2 : Hid _ := heap_kept HL.out hbX
  have HR2 : Hid _ := heap_kept HR.out hbX
  have HD2 : Hid (HdL w X g B n v im a' b' c') := HD.out.call hbX
  clear hmay hbX HL HR HD HMay
  have c3 : X.cell? ⟨w.heap.size, 3, none⟩ = some (.int .i64 1) := by rw [← HyL.out]; exact Joins.cell_of_block HL2.out 3
  have hrd := read04_ok HD2.out.row HD2.out.own hl ha 1 (by omega)
  go_wp2_with (first | (go_at_call 94; fail))
  refine hrd.mono ?_
  rintro e Y ⟨rfl, hr1, hr2, hr3⟩
  have HL3 : Hid (Y.heap[w.heap.size]? = _) := (hr3.block _ (Array.getElem?_eq_some_iff.1 HL2.out).1 (by omega)).trans HL2.out
  have HR3 : Hid (Y.heap[w.heap.size + 1]? = _) := (hr3.block _ (Array.getElem?_eq_some_iff.1 HR2.out).1 (by omega)).trans HR2.out
  have HD3 : Hid (HdL w Y g B n v im (a' + 1) b' c') := ⟨hr1, hr2, Fr.trans HD2.out.fr hr3 fun _ _ q => q⟩
  clear hrd hr1 hr2 hr3 HL2 HR2 HD2 c3
  have HL4 : Hid _ := heap_kept HL3.out (below_new Y (.cells (blk (atL im 1)) 76))
  have HR4 : Hid _ := heap_kept HR3.out (below_new Y (.cells (blk (atL im 1)) 76))
  have HD4 : Hid (HdL w (Y.alloc (.cells (blk (atL im 1)) 76)) g B n v im (a' + 1) b' c') := HD3.out.call (below_new _ _)
  have hbk := blk_at (heap_alloc_new Y (.cells (blk (atL im 1)) 76))
  clear HL3 HR3 HD3
  generalize atL im 1 = F at *
  go_upto_region 9 with (first | (with_reducible refine isStoreR 76 ?_; refine wpList_stNew 76 rfl (.tmp 7) (.tmp 25) rfl Y.heap.size (blk F) (blk nought) 76 (blk_info _) (blk_two _ _) (blk_one _) rfl rfl rfl ?_))
  generalize Y.alloc (.cells (blk F) 76) = Z at *
  generalize Y.heap.size = gb at *
  have hdec := HDec.out Z
  go_wp2_with (first | (with_reducible refine isLoadR 49 ?_; refine wpList_ldR 49 Tryz.underlying49 rfl rfl (.tmp 3) rfl w.heap.size rfl (layRow y) 49 (0, 0) (lay_info _) HL4.out ?_) | (with_reducible refine isLoadR 76 ?_; refine wpList_ldB rfl (.tmp 7) rfl gb 0 F rfl hbk ?_) | (go_at_call 95; fail))
  refine hdec.mono ?_
  rintro e U ⟨rfl, hbU⟩
  have HR5 : Hid _ := heap_kept (heap_kept HR4.out hbU) (below_new U (.cells hd0 126))
  have HN5 : Hid ((U.alloc (.cells hd0 126)).heap[U.heap.size]? = some (.cells hd0 126)) := heap_alloc_new _ _
  have HD5 : Hid (HdL w (U.alloc (.cells hd0 126)) g B n v im (a' + 1) b' c') := (HD4.out.call hbU).call (below_new _ _)
  clear hdec hbU hbk HL4 HR4 HD4 HDec
  go_upto_region 10 with (first | (with_reducible refine isStoreR 126 ?_; refine wpList_stNew 126 rfl (.tmp 9) (.tmp 34) rfl U.heap.size hd0 hd0 126 hd_info rfl hd_one rfl rfl rfl ?_))
  generalize U.alloc (.cells hd0 126) = T at *
  generalize U.heap.size = gh at *
  go_wp2_with (first | (with_reducible refine isLoadR 126 ?_; refine wpList_ldR 126 Tryz.underlying126 rfl rfl (.tmp 9) rfl gh rfl hd0 126 (0, 0) hd_info HN5.out ?_) | (with_reducible refine isStoreR 126 ?_; refine wpList_stR 126 rfl (.tmp 4) (.tmp 39) rfl (w.heap.size + 1) hd0 hd0 126 hd_info rfl hd_one rfl rfl HR5.out ?_))
  have hF := Fr.setRow T (w.heap.size + 1) hd0
  exact retCT Tryz.underlying126 rfl rfl (w.heap.size + 1) hd0 126 hd_info rfl (setRow_heap _ _ _ _ _ _ HR5.out) rfl ⟨rfl, (hF.block _ (Array.getElem?_eq_some_iff.1 HD5.out.row).1 (by omega)).trans HD5.out.row, own_frame HD5.out.own hF fun q hq hT => own_ne HD5.out.own HR5.out (by decide) (hT ▸ hq), Fr.trans HD5.out.fr hF fun q hq hT => by omega⟩
end Go.Proofs.YtkcgbhagjkhcmaaGreat
/- The document's log made. -/
namespace Go.Proofs.YtkcgbhagjkhcmaaGreat
open Go.RowKit Go.Maps
def lgRow (d : Value) (y : Lay) (mine : Int) (made : Bool) : Array Value := #[d, .int .i64 y.b, .int .i64 y.l, .int .i64 y.i, .int .i64 y.logAt, .int .i64 y.nodeAt, .int .i64 y.nodeBlocks, .int .i64 y.bitsAt, .int .i64 y.bitsBlocks, .int .i64 y.dataAt, .int .i64 mine, .bool made, .slice none 0 0, .bool false, .int .i64 0, .slice none 0 0, .int .i64 0, .int .i64 0]
theorem zeroLg : ∀ w, (zeroValue 131).run Tryz.prog w = .ok (.agg (lgRow (.pointer none) lay0 0 false)) w := (zero_of_info (show (Tryz.prog.info? 131).map (fun i => (i.zero, i.size)) = some (some (.agg (lgRow (.pointer none) lay0 0 false)), 18) by kernel_rfl)).1
theorem exec_buildLg {o : Oper} {a : Act} {W : World} {x0 x1 x2 : Operand} {p : Option Addr} {y : Lay} {m : Int} (ho : o.op = .build 131 #[(0, x0), (1, x1), (2, x2), (3, .const (.bool true))]) (h0 : a.eval x0 = .pointer p) (h1 : a.eval x1 = .agg (layRow y)) (h2 : a.eval x2 = .int .i64 m) : (execOp a.eval o).run Tryz.prog W = .ok (.value (.agg (lgRow (.pointer p) y m true))) W := by
  have z := zeroLg W
  have hc : ∀ v, a.eval (.const v) = v := fun _ => rfl
  unfold lgRow layRow at *
  generalize a.eval = E at *
  unfold execOp
  simp only [ho]
  simp [go_sem, h0, h1, h2, hc, z, lay0]
set_option maxRecDepth 20000 in
set_option maxHeartbeats 4000000 in
theorem new08_ok {w : World} {g B b l i : Nat} {n : Int} {v : Value} {im : List Cel} {a' : Int} (hs : SupOk b l i im) (hn : (b : Int) ≤ n) (h : HdL w w g B n v im a' 0 0) (hl : im.length ≤ 1048576) (ha : 0 ≤ a' ∧ a' ≤ 1000000) :
    Calls Tryz.prog 21 #[.pointer (some ⟨g, 0, none⟩), .agg (layRow (layOf b l i))] w fun e w' => ∃ gm, e = .returned (.tuple #[.pointer (some ⟨gm, 0, none⟩), .int .i64 0]) ∧ w'.heap[gm]? = some (.cells (lgRow (.pointer (some ⟨g, 0, none⟩)) (layOf b l i) 1 true) 131) ∧ HdL w w' g B n v im (a' + 1) 1 1 := by
  have zh := zeroHd
  have hgw : g < w.heap.size := (Array.getElem?_eq_some_iff.1 h.row).1
  have hx1 := below_new w (.cells (layRow (layOf b l i)) 49)
  have hhd := header08_ok (w := w.alloc (.cells (layRow (layOf b l i)) 49)) hs hn ⟨heap_kept h.row hx1, OwnG.later h.own hx1, Fr.refl _ _⟩ hl ha
  have HL : Hid _ := heap_alloc_new w (.cells (layRow (layOf b l i)) 49)
  have HB : Hid _ := hx1
  clear hs hx1 h
  generalize layOf b l i = y at *
  go_enter Tryz.func21, Tryz.ntmps21
  go_upto_region 1 with fail
  generalize w.alloc (.cells (layRow y) 49) = V at *
  go_wp2_with (first | (with_reducible refine isLoadR 49 ?_; refine wpList_ldR 49 Tryz.underlying49 rfl rfl (.tmp 3) rfl w.heap.size rfl (layRow y) 49 (0, 0) (lay_info _) HL.out ?_) | (go_at_call 56; fail))
  refine hhd.mono ?_
  rintro e X ⟨rfl, hX⟩
  have HL2 : Hid (X.heap[w.heap.size]? = _) := (hX.fr.block _ (Array.getElem?_eq_some_iff.1 HL.out).1 (by omega)).trans HL.out
  have HD2 : Hid (HdL w X g B n v im (a' + 1) 0 0) := ⟨hX.row, hX.own, Fr.trans (Fr.ofBelow (T := fun q => q = g) HB.out) hX.fr fun _ _ q => q⟩
  clear hhd hX HL HB
  have HL3 : Hid _ := heap_kept HL2.out (below_new X (.cells hd0 126))
  have HD3 : Hid (HdL w (X.alloc (.cells hd0 126)) g B n v im (a' + 1) 0 0) := HD2.out.call (below_new _ _)
  have ht : (X.alloc (.cells hd0 126)).cell? ⟨X.heap.size, 0, none⟩ = some (.slice none 0 0) := Joins.cell_of_block (heap_alloc_new X (.cells hd0 126)) 0
  clear HL2 HD2
  go_upto_region 2 with (first | (with_reducible refine isStoreR 126 ?_; refine wpList_stNew 126 rfl (.tmp 6) (.tmp 12) rfl X.heap.size hd0 hd0 126 hd_info rfl hd_one rfl rfl rfl ?_))
  generalize X.alloc (.cells hd0 126) = Y at *
  generalize X.heap.size = gh at *
  go_upto_region 6 with fail
  have HLd : Hid (Y.drew.heap[w.heap.size]? = some (.cells (layRow y) 49)) := HL3.out
  have HDd : Hid (HdL w Y.drew g B n v im (a' + 1) 0 0) := HD3.out.call (Below.refl _ _).drew
  have hcl := claim04_ok HDd.out.row (by omega)
  clear HL3 HD3 ht
  refine wp_region_ord (S := fun u => u.heap[w.heap.size]? = some (.cells (layRow y) 49)) [(0, true), (1, true), (2, true), (3, false), (4, true), (5, false), (6, true), (7, true)] (by kernel_rfl) rfl (by kernel_rfl) (fun d _ _ _ _ h => by cases d <;> exact h) HLd.out ?_
  simp only [inOrd, List.getElem?_cons_zero, List.getElem?_cons_succ]
  refine wpOrd_yield (v := .pointer (some ⟨g, 0, none⟩)) rfl (fun u _ => exec_mv rfl rfl) ?_
  simp only [Act.put, List.setIfInBounds_toArray, List.set_cons_succ, List.set_cons_zero]
  refine wpOrd_yield (v := .agg (layRow y)) rfl (fun u hu => run_ldR 49 Tryz.underlying49 rfl (.tmp 3) rfl w.heap.size rfl hu (lay_info _)) ?_
  simp only [Act.put, List.setIfInBounds_toArray, List.set_cons_succ, List.set_cons_zero]
  refine wpOrd_yield (v := .pointer (some ⟨g, 0, none⟩)) rfl (fun u _ => exec_mv rfl rfl) ?_
  simp only [Act.put, List.setIfInBounds_toArray, List.set_cons_succ, List.set_cons_zero]
  refine wpOrd_call rfl 57 _ _ rfl Tryz.call57 [.pointer (some ⟨g, 0, none⟩)] rfl ?_
  refine hcl.mono ?_
  rintro e Z ⟨rfl, hz1, hz2⟩
  have hLZ : Z.heap[w.heap.size]? = some (.cells (layRow y) 49) := (hz2.block _ (Array.getElem?_eq_some_iff.1 HLd.out).1 (by omega)).trans HLd.out
  refine ⟨_, rfl, hLZ, ?_⟩
  simp only [Act.put, List.setIfInBounds_toArray, List.set_cons_succ, List.set_cons_zero]
  refine wpOrd_yield (v := .agg (lgRow (.pointer (some ⟨g, 0, none⟩)) y (0 + 1) true)) rfl (fun u _ => exec_buildLg rfl rfl rfl rfl) ?_
  simp only [Act.put, List.setIfInBounds_toArray, List.set_cons_succ, List.set_cons_zero]
  refine wpOrd_act (v := .pointer (some ⟨Z.heap.size, 0, none⟩)) rfl (exec_box rfl rfl) (heap_kept hLZ (below_new _ _)) ?_
  simp only [Act.put, List.setIfInBounds_toArray, List.set_cons_succ, List.set_cons_zero]
  refine wpOrd_yield (v := .pointer (some ⟨Z.heap.size, 0, none⟩)) rfl (fun u _ => by go_simp) ?_
  simp only [Act.put, List.setIfInBounds_toArray, List.set_cons_succ, List.set_cons_zero]
  refine wpOrd_yield (v := .int .i64 0) rfl (fun u _ => by go_simp) ?_
  simp only [Act.put, List.setIfInBounds_toArray, List.set_cons_succ, List.set_cons_zero]
  refine wpOrd_nil ?_
  have HD5 : Hid (HdL w (Z.alloc (.cells (lgRow (.pointer (some ⟨g, 0, none⟩)) y (0 + 1) true) 131)) g B n v im (a' + 1) 1 1) := HdL.call ⟨hz1, own_frame HDd.out.own hz2 fun q hq hT => own_ne HDd.out.own HDd.out.row (by decide) (hT ▸ hq), Fr.trans HDd.out.fr hz2 fun _ _ q => q⟩ (below_new _ _)
  have HN5 : Hid ((Z.alloc (.cells (lgRow (.pointer (some ⟨g, 0, none⟩)) y (0 + 1) true) 131)).heap[Z.heap.size]? = _) := heap_alloc_new _ _
  clear hcl hLZ hz1 hz2 HLd HDd
  generalize Z.alloc (.cells (lgRow (.pointer (some ⟨g, 0, none⟩)) y (0 + 1) true) 131) = U at *
  generalize Z.heap.size = gm at *
  go_wp2
  exact bodyPost_ret (results_tmp2 rfl _ _ _) rfl ⟨gm, rfl, HN5.out, HD5.out⟩
end Go.Proofs.YtkcgbhagjkhcmaaGreat
/- The example's image, held against what the program's disk asks of one. -/
namespace Go.Proofs.YtkcgbhagjkhcmaaGreat
open Go.RowKit Go.Maps
theorem blkW (f : Nat → Int) : Go.Proofs.YtkcgbhagjkhcmaaGreatW.blk f = blk f := by unfold Go.Proofs.YtkcgbhagjkhcmaaGreatW.blk blk rowN; simp
theorem imgW {w : World} {p : Option Addr} {l : List Cel} (h : ImgAt w p l) : Go.Proofs.YtkcgbhagjkhcmaaGreatW.ImgAt w p l := fun h0 => by
  obtain ⟨b, off, h1, h2, h3⟩ := h h0
  refine ⟨b, off, h1, h2, fun k c hc => ⟨(h3 k c hc).1, fun j v hv => ?_⟩⟩
  rw [blkW, Array.getElem?_toList] at hv
  have hj : j < 1024 := by have := (Array.getElem?_eq_some_iff.1 hv).1; rw [blk_size] at this; exact this
  rw [show blk c.2 = rowN .u8 c.2 1024 from rfl, rowN_get _ _ _ _ hj] at hv
  rw [(h3 k c hc).2 j hj]
  exact hv
theorem set_far {f : Nat → Int} {i j : Nat} (hi : i < 8192) (hj : 1024 ≤ j) : setP f i j = f j := by
  unfold setP
  split
  · rfl
  · unfold updN; rw [if_neg (by omega)]
theorem bits_far (want : Nat → Bool) {j : Nat} (hj : 1024 ≤ j) : ∀ k, k ≤ 8192 → bitsR nought want k j = 0
  | 0, _ => rfl
  | k + 1, hk => by
    unfold bitsR
    split
    · rw [set_far (by omega) hj]; exact bits_far want hj k (by omega)
    · exact bits_far want hj k (by omega)
theorem canE : ∀ c ∈ imE, Go.Proofs.YtkcgbhagjkhcmaaGreatW.Can c.2 := fun c hc => by
  refine ⟨imE_byt c hc, fun j hj => ?_⟩
  unfold imE at hc
  simp only [List.mem_cons, List.not_mem_nil, or_false] at hc
  rcases hc with rfl | rfl | rfl | rfl
  · show supP y0 j = 0
    unfold supP
    rw [if_neg (by omega), if_neg (by omega)]
  · show N0 j = 0
    unfold N0 overN
    rw [if_neg (by omega)]
    rfl
  · show B0 j = 0
    unfold B0
    exact bits_far _ hj 400 (by omega)
  · show D0 j = 0
    unfold D0 dirP
    rw [if_neg (by omega)]
theorem blank_no {f : Nat → Int} (hf : Go.Proofs.YtkcgbhagjkhcmaaGreatW.Can f) (j : Nat) (h : ¬ f j = 0) : Go.Proofs.YtkcgbhagjkhcmaaGreatW.blankB f = false := by
  cases hs : Go.Proofs.YtkcgbhagjkhcmaaGreatW.blankB f with
  | false => rfl
  | true => exact absurd (congrFun (hf.blank.1 hs) j) h
theorem mayW : Go.Proofs.YtkcgbhagjkhcmaaGreatW.mayB 400 imE = true := by
  have h1 := blank_no (canE (0, supP y0) (by simp [imE])) 0 (by decide +kernel)
  have h2 := blank_no (canE (33, N0) (by simp [imE])) 64 (by decide +kernel)
  have h3 := blank_no (canE (37, B0) (by simp [imE])) 0 b0_zero
  have h4 := blank_no (canE (38, D0) (by simp [imE])) 0 (by decide +kernel)
  unfold Go.Proofs.YtkcgbhagjkhcmaaGreatW.mayB imE
  simp only [Go.Proofs.YtkcgbhagjkhcmaaGreatW.risesB]
  simp only [] at h1 h2 h3 h4
  rw [h1, h2, h3, h4]
  decide
end Go.Proofs.YtkcgbhagjkhcmaaGreat
/- A log on a disk that holds the example's world: the kit's Begin. -/
namespace Go.Proofs.YtkcgbhagjkhcmaaGreat
open Go.RowKit Go.Maps
theorem wpList_ldMid {ops : Array Oper} {rest : List Oper} {o : Oper} {a : Act} {w : World} {Q : Exit → Act → World → Prop} (t : TypeId) {d : TypeDesc} (hu : Tryz.prog.underlying t = some d) (hd : d.isRow = true) (hw : Region.wanted o (yielded ops a.tmps) = true) (x : Operand) (ho : o.op = .load t x) (b off : Nat) (cs : List Value) (R : Array Value) (hR : cs.toArray = R) (hsz : (Tryz.prog.info? t).map (·.size) = some cs.length) (hx : a.eval x = .pointer (some ⟨b, off, none⟩)) (hg : ∀ j u, cs[j]? = some u → w.cell? ⟨b, off + j, none⟩ = some u)
    (h : wpList Tryz.prog ops Q rest (a.put o.dst (.agg R)) w) : wpList Tryz.prog ops Q (o :: rest) a w := by
  subst hR
  have e : (Instr.loadAt t (.pointer (some ⟨b, off, none⟩))).run Tryz.prog w = .ok (.agg cs.toArray) w := run_loadAt_mid (P := Tryz.prog) w b off t cs _ (fun j v hv => hg j v hv) hu (by cases d <;> first | rfl | cases hd) hsz
  refine wpList_ex hw ?_ h
  unfold execOp
  simp only [ho, hx, e, Sem.run_bind, Result.andThen_ok, Sem.run_pure]
section
variable {w : World} {g : Nat} {b l i fr sp sd : Int} {v : Value}
theorem wd_geo (h : w.heap[g]? = some (.cells (wdRow b l i v fr sp sd) 31)) : ∀ j u, ([.int .i64 b, .int .i64 l, .int .i64 i] : List Value)[j]? = some u → w.cell? ⟨g, 0 + j, none⟩ = some u := fun j u hu => by
  rw [Joins.cell_of_block h]
  match j, hu with
  | 0, hu => exact hu
  | 1, hu => exact hu
  | 2, hu => exact hu
  | j + 3, hu => simp at hu
theorem wd_st (h : w.heap[g]? = some (.cells (wdRow b l i v fr sp sd) 31)) : ∀ j u, ([v, .int .i64 fr, .int .i64 sp] : List Value)[j]? = some u → w.cell? ⟨g, 3 + j, none⟩ = some u := fun j u hu => by
  rw [Joins.cell_of_block h]
  match j, hu with
  | 0, hu => exact hu
  | 1, hu => exact hu
  | 2, hu => exact hu
  | j + 3, hu => simp at hu
end
abbrev stE : Go.Proofs.YtkcgbhagjkhcmaaGreatW.St := Go.Proofs.YtkcgbhagjkhcmaaGreatW.loadV 400 imE
theorem stE_keep : stE.n = 400 ∧ stE.wait = [] ∧ stE.ops = [] ∧ stE.stopped = false ∧ stE.made = 0 ∧ stE.reads = 0 ∧ stE.claims = 0 := ⟨rfl, rfl, rfl, rfl, rfl, rfl, rfl⟩
theorem hold_ne (s : Go.Proofs.YtkcgbhagjkhcmaaGreatW.St) (k : Int) (f : Nat → Int) (j : Int) (h : ¬ j = k) : (Go.Proofs.YtkcgbhagjkhcmaaGreatW.holdV s k f).held j = s.held j := by unfold Go.Proofs.YtkcgbhagjkhcmaaGreatW.holdV; simp only [if_neg h]
theorem curE : Go.Proofs.YtkcgbhagjkhcmaaGreatW.curV stE 1 = nought := by
  show (stE.held 1).getD nought = nought
  have : stE.held 1 = none := by
    show (Go.Proofs.YtkcgbhagjkhcmaaGreatW.holdV (Go.Proofs.YtkcgbhagjkhcmaaGreatW.holdV (Go.Proofs.YtkcgbhagjkhcmaaGreatW.holdV (Go.Proofs.YtkcgbhagjkhcmaaGreatW.holdV (Go.Proofs.YtkcgbhagjkhcmaaGreatW.newV 400) 0 (supP y0)) 33 N0) 37 B0) 38 D0).held 1 = none
    rw [hold_ne _ _ _ _ (by decide), hold_ne _ _ _ _ (by decide), hold_ne _ _ _ _ (by decide), hold_ne _ _ _ _ (by decide)]
    rfl
  rw [this]
  rfl
theorem tgE0 : Go.Proofs.YtkcgbhagjkhcmaaGreatW.tgT 400 32 stE = [] ∧ Go.Proofs.YtkcgbhagjkhcmaaGreatW.tgE 400 32 stE = 0 := by
  unfold Go.Proofs.YtkcgbhagjkhcmaaGreatW.tgT Go.Proofs.YtkcgbhagjkhcmaaGreatW.tgE
  rw [curE]
  constructor <;> decide +kernel
theorem fineW : Go.Proofs.YtkcgbhagjkhcmaaGreatW.H.Fine 400 32 60 := by decide
theorem layW : Go.Proofs.YtkcgbhagjkhcmaaGreatW.layA 400 32 60 = layRow (layOf 400 32 60) := by rfl
end Go.Proofs.YtkcgbhagjkhcmaaGreat
/- A log on a disk that holds the example's world: the kit's Begin. -/
namespace Go.Proofs.YtkcgbhagjkhcmaaGreat
open Go.RowKit Go.Maps
theorem st3_info (v : Value) (fr sp : Int) : (Tryz.prog.info? 29).map (·.size) = some ([v, .int .i64 fr, .int .i64 sp] : List Value).length := st_info v fr sp
theorem geo3_info (b l i : Int) : (Tryz.prog.info? 26).map (·.size) = some ([.int .i64 b, .int .i64 l, .int .i64 i] : List Value).length := geo_info b l i
def prRow (d l r m : Nat) : Array Value := #[.pointer (some ⟨d, 0, none⟩), .pointer (some ⟨l, 0, none⟩), .pointer (some ⟨r, 0, none⟩), .pointer (some ⟨m, 0, none⟩)]
theorem zeroPr : ∀ w, (zeroValue 42).run Tryz.prog w = .ok (.agg #[.pointer none, .pointer none, .pointer none, .pointer none]) w := (zero_of_info (show (Tryz.prog.info? 42).map (fun i => (i.zero, i.size)) = some (some (.agg #[.pointer none, .pointer none, .pointer none, .pointer none]), 4) by kernel_rfl)).1
theorem rmE : Go.Proofs.YtkcgbhagjkhcmaaGreatW.Rm stE 3 := by
  obtain ⟨_, _, h3, _, h5, h6, h7⟩ := stE_keep
  unfold Go.Proofs.YtkcgbhagjkhcmaaGreatW.Rm
  rw [h3, h5, h6, h7]
  decide
set_option maxRecDepth 40000 in
set_option maxHeartbeats 8000000 in
theorem begin_ok {w : World} {pi pe : Option Addr} {ce : Nat} (ci : Nat) (h : ExAt w pi pe ce) :
    Calls Tryz.prog 5 #[.agg (wdRow 400 32 60 (.slice pi 1 ci) 361 59 0)] w fun e w' => ∃ W0 gp gl gd gr gm, e = .returned (.tuple #[.pointer (some ⟨gp, 0, none⟩), .bool true, .bool true]) ∧ Below w.heap.size w W0 ∧ Go.Proofs.YtkcgbhagjkhcmaaGreatW.LogI W0 w' gl gd (Go.Proofs.YtkcgbhagjkhcmaaGreatW.newX 400 32 60 (Go.Proofs.YtkcgbhagjkhcmaaGreatW.claimN stE)) (Go.Proofs.YtkcgbhagjkhcmaaGreatW.claimV (Go.Proofs.YtkcgbhagjkhcmaaGreatW.readS stE)) (Go.Proofs.YtkcgbhagjkhcmaaGreatW.curV stE) [(gp, .cells (prRow gd gl gr gm) 42)] := by
  have zi := zeroIm
  have zl := zeroLay
  have zp := zeroPr
  have hX := heap_alloc_new w (.cells (wdRow 400 32 60 (.slice pi 1 ci) 361 59 0) 31)
  have hbX := below_new w (.cells (wdRow 400 32 60 (.slice pi 1 ci) 361 59 0) 31)
  have hmay := mayE ci (h.later hbX)
  have HE : Hid _ := h.later hbX
  have HX : Hid _ := hX
  have HB : Hid _ := hbX
  clear h hX hbX
  go_enter Tryz.func5, Tryz.ntmps5
  go_upto_region 1 with fail
  generalize w.alloc (.cells (wdRow 400 32 60 (.slice pi 1 ci) 361 59 0) 31) = V at *
  have m1 := wd_geo HX.out
  have m2 := wd_st HX.out
  go_wp2_with (first | (with_reducible refine isLoadR 26 ?_; refine wpList_ldMid 26 Tryz.underlying26 rfl rfl (.tmp 15) rfl w.heap.size 0 [.int .i64 400, .int .i64 32, .int .i64 60] (geoRow 400 32 60) rfl (geo3_info _ _ _) rfl m1 ?_) | (with_reducible refine isLoadR 29 ?_; refine wpList_ldMid 29 Tryz.underlying29 rfl rfl (.tmp 17) rfl w.heap.size 3 [.slice pi 1 ci, .int .i64 361, .int .i64 59] (stRow (.slice pi 1 ci) 361 59) rfl (st3_info _ _ _) rfl m2 ?_) | (go_at_call 15; fail))
  refine hmay.mono ?_
  rintro e X ⟨rfl, hb1⟩
  have HX1 : Hid _ := heap_kept HX.out hb1
  have HE1 : Hid (ExAt X pi pe ce) := ExAt.later HE.out hb1
  have HB1 : Hid (Below w.heap.size w X) := below_next HB.out hb1
  clear hmay hb1 HX HE HB m1 m2
  have m1 := wd_geo HX1.out
  have m2 := wd_st HX1.out
  have c6 : X.cell? ⟨w.heap.size, 6, none⟩ = some (.int .i64 0) := Joins.cell_of_block HX1.out 6
  have hlaid := laidE ci HE1.out
  go_wp2_with (first | (with_reducible refine isLoadR 26 ?_; refine wpList_ldMid 26 Tryz.underlying26 rfl rfl (.tmp 22) rfl w.heap.size 0 [.int .i64 400, .int .i64 32, .int .i64 60] (geoRow 400 32 60) rfl (geo3_info _ _ _) rfl m1 ?_) | (with_reducible refine isLoadR 29 ?_; refine wpList_ldMid 29 Tryz.underlying29 rfl rfl (.tmp 24) rfl w.heap.size 3 [.slice pi 1 ci, .int .i64 361, .int .i64 59] (stRow (.slice pi 1 ci) 361 59) rfl (st3_info _ _ _) rfl m2 ?_) | (go_at_call 16; fail))
  refine hlaid.mono ?_
  rintro e Y ⟨v, rfl, hown, hb2⟩
  obtain ⟨p, c, rfl, himg⟩ := OwnH.img hown
  have HX2 : Hid _ := heap_kept (heap_kept HX1.out hb2) (below_new Y (.cells (imRow 400 (.slice p imE.length c)) 62))
  have HI2 : Hid (ImgAt (Y.alloc (.cells (imRow 400 (.slice p imE.length c)) 62)) p imE) := ImgAt.later himg (below_new _ _)
  have HR2 : Hid ((Y.alloc (.cells (imRow 400 (.slice p imE.length c)) 62)).heap[Y.heap.size]? = some (.cells (imRow 400 (.slice p imE.length c)) 62)) := heap_alloc_new _ _
  have HB2 : Hid (Below w.heap.size w (Y.alloc (.cells (imRow 400 (.slice p imE.length c)) 62))) := below_next (below_next HB1.out hb2) (below_new _ _)
  clear hlaid hown himg hb2 HX1 HE1 HB1 m1 m2 c6
  rw [show imE.length = 4 from rfl] at HX2 HI2 HR2 HB2 ⊢
  go_upto_region 5 with (first | (with_reducible refine isStoreR 62 ?_; refine wpList_stNew 62 rfl (.tmp 5) (.tmp 28) rfl Y.heap.size (imRow 400 (.slice p 4 c)) (imRow 0 (.slice none 0 0)) 62 (imr_info _ _) (imr_two _ _ _ _) (imr_one _ _ _ _) rfl rfl rfl ?_))
  generalize Y.alloc (.cells (imRow 400 (.slice p 4 c)) 62) = Z at *
  generalize Y.heap.size = gi at *
  have m1 := wd_geo HX2.out
  have hof := of03_ok geoE Z
  have HySup : Hid (layOf 400 32 60 = layOf 400 32 60) := rfl
  go_wp2_with (first | (with_reducible refine isLoadR 26 ?_; refine wpList_ldMid 26 Tryz.underlying26 rfl rfl (.tmp 30) rfl w.heap.size 0 [.int .i64 400, .int .i64 32, .int .i64 60] (geoRow 400 32 60) rfl (geo3_info _ _ _) rfl m1 ?_) | (go_at_call 17; fail))
  refine hof.mono ?_
  rintro e U ⟨rfl, hb3⟩
  obtain ⟨y, hy⟩ : ∃ y, layOf 400 32 60 = y := ⟨_, rfl⟩
  have HyE : Hid (layOf 400 32 60 = y) := hy
  rw [hy]
  have HI3 : Hid (ImgAt (U.alloc (.cells (layRow y) 49)) p imE) := ImgAt.later (ImgAt.later HI2.out hb3) (below_new _ _)
  have HR3 : Hid ((U.alloc (.cells (layRow y) 49)).heap[gi]? = some (.cells (imRow 400 (.slice p 4 c)) 62)) := heap_kept (heap_kept HR2.out hb3) (below_new _ _)
  have HL3 : Hid ((U.alloc (.cells (layRow y) 49)).heap[U.heap.size]? = some (.cells (layRow y) 49)) := heap_alloc_new _ _
  have HB3 : Hid (Below w.heap.size w (U.alloc (.cells (layRow y) 49))) := below_next (below_next HB2.out hb3) (below_new _ _)
  clear hof hb3 HX2 HI2 HR2 HB2 m1 hy HySup
  go_upto_region 6 with (first | (with_reducible refine isStoreR 49 ?_; refine wpList_stNew 49 rfl (.tmp 6) (.tmp 33) rfl U.heap.size (layRow y) (layRow lay0) 49 (lay_info _) (lay_two _ _) (lay_one _) rfl rfl rfl ?_))
  generalize U.alloc (.cells (layRow y) 49) = T at *
  generalize U.heap.size = gw at *
  have hld : Calls Tryz.prog 18 #[.agg (imRow 400 (.slice p 4 c))] T _ := Go.Proofs.YtkcgbhagjkhcmaaGreatW.load_ok 400 imE p c T (by decide) (imgW HI3.out) canE mayW
  go_wp2_with (first | (with_reducible refine isLoadR 62 ?_; refine wpList_ldR 62 Tryz.underlying62 rfl rfl (.tmp 5) rfl gi rfl (imRow 400 (.slice p 4 c)) 62 (0, 0) (imr_info _ _) HR3.out ?_) | (go_at_call 18; fail))
  refine hld.mono ?_
  rintro e T1 ⟨LL, rfl, hd1, hd2, hd3⟩
  have HS : Hid (Go.Proofs.YtkcgbhagjkhcmaaGreatW.Sits T T1 LL.d stE []) := ⟨LL, rfl, hd1, hd2, hd3, fun q hq => by cases hq⟩
  have HL4 : Hid _ := heap_kept HL3.out hd3
  clear hld hd1 hd2 hd3
  generalize LL.d = gd at *
  have hnl := Go.Proofs.YtkcgbhagjkhcmaaGreatW.newL_ok HS.out fineW (by decide) rfl rmE tgE0.1 tgE0.2
  rw [layW, HyE.out] at hnl
  clear HS
  go_wp2_with (first | (with_reducible refine isLoadR 49 ?_; refine wpList_ldR 49 Tryz.underlying49 rfl rfl (.tmp 6) rfl gw rfl (layRow y) 49 (0, 0) (lay_info _) HL4.out ?_) | (go_at_call 19; fail))
  refine hnl.mono ?_
  rintro e T2 ⟨gl, rfl, hlog⟩
  unfold Go.Proofs.YtkcgbhagjkhcmaaGreatW.ptr
  have hb4 := Go.Proofs.YtkcgbhagjkhcmaaGreatW.LogI.below hlog
  have HI5 : Hid (ImgAt T2 p imE) := ImgAt.later HI3.out hb4
  have HR5 : Hid _ := heap_kept HR3.out hb4
  have HL5 : Hid _ := heap_kept HL3.out hb4
  have HLog : Hid _ := hlog
  clear hnl hlog hb4 HI3 HR3 HL3 HL4
  have hrl : Calls Tryz.prog 20 #[.agg (imRow 400 (.slice p 4 c))] T2 _ := load04_ok 400 imE p c T2 HI5.out imE_whole
  go_wp2_with (first | (with_reducible refine isLoadR 62 ?_; refine wpList_ldR 62 Tryz.underlying62 rfl rfl (.tmp 5) rfl gi rfl (imRow 400 (.slice p 4 c)) 62 (0, 0) (imr_info _ _) HR5.out ?_) | (go_at_call 20; fail))
  refine hrl.mono ?_
  rintro e T3 ⟨gr, rfl, ⟨v4, hr1, hr2⟩, hr3, hr4⟩
  have HL6 : Hid _ := heap_kept HL5.out hr4
  have hnw := new08_ok (g := gr) imE_sup (Int.le_refl _) ⟨hr1, hr2, Fr.refl _ _⟩ (by decide) (by decide)
  rw [HyE.out] at hnw
  have HB6 : Hid _ := hr4
  have HG6 : Hid (T2.heap.size ≤ gr) := hr3
  clear hrl hr1 hr2 hr3 hr4 HI5 HR5 HL5
  go_wp2_with (first | (with_reducible refine isLoadR 49 ?_; refine wpList_ldR 49 Tryz.underlying49 rfl rfl (.tmp 6) rfl gw rfl (layRow y) 49 (0, 0) (lay_info _) HL6.out ?_) | (go_at_call 21; fail))
  refine hnw.mono ?_
  rintro e T4 ⟨gm, rfl, _, hm2⟩
  have HB7 : Hid (Below T2.heap.size T2 T4) := HB6.out.trans (hm2.fr.below (fun q hq => by have := HG6.out; omega) HB6.out.size)
  have HLog7 : Hid _ := Go.Proofs.YtkcgbhagjkhcmaaGreatW.LogI.later HLog.out HB7.out
  clear hnw hm2 HB6 HG6 HLog HL6 HB7
  have HLog8 : Hid _ := Go.Proofs.YtkcgbhagjkhcmaaGreatW.LogI.add HLog7.out (.cells (prRow gd gl gr gm) 42)
  clear HLog7
  go_wp2
  exact bodyPost_ret (results_tmp3 rfl _ _ _) rfl ⟨T, T4.heap.size, gl, gd, gr, gm, rfl, HB3.out, HLog8.out⟩
end Go.Proofs.YtkcgbhagjkhcmaaGreat
/- The calls of room at a log that is none: nil, blank or closed. -/
namespace Go.Proofs.YtkcgbhagjkhcmaaGreat
open Go.RowKit Go.Maps
open Go.Proofs.YtkcgbhagjkhcmaaGreatW (NoneAt check_none)
section
variable {W : World} {v : Value}
set_option maxHeartbeats 400000 in
theorem refusesR_none (h : NoneAt W v) : Calls Tryz.prog 26 #[v] W fun e W' => e = .returned (.int .i64 1) ∧ W' = W := by
  have hc := check_none h
  clear h
  go_enter Tryz.func26, Tryz.ntmps26
  go_wp2_with (first | (go_at_call 23; refine hc.mono ?_; rintro e W1 ⟨rfl, rfl⟩))
  go_ret
  exact ⟨rfl, rfl⟩
set_option maxHeartbeats 400000 in
theorem take_none (h : NoneAt W v) : Calls Tryz.prog 9 #[v] W fun e W' => e = .returned (.tuple #[.int .i64 0, .int .i64 1]) ∧ W' = W := by
  have hc := refusesR_none h
  clear h
  go_enter Tryz.func9, Tryz.ntmps9
  go_wp2_with (first | (go_at_call 26; refine hc.mono ?_; rintro e W1 ⟨rfl, rfl⟩))
  exact bodyPost_ret (results_tmp2 rfl _ _ _) rfl ⟨rfl, rfl⟩
set_option maxHeartbeats 400000 in
theorem give_none (h : NoneAt W v) (k : Int) : Calls Tryz.prog 11 #[v, .int .i64 k] W fun e W' => e = .returned (.int .i64 1) ∧ W' = W := by
  have hc := refusesR_none h
  clear h
  go_enter Tryz.func11, Tryz.ntmps11
  go_wp2_with (first | (go_at_call 26; refine hc.mono ?_; rintro e W1 ⟨rfl, rfl⟩))
  go_ret
  exact ⟨rfl, rfl⟩
set_option maxHeartbeats 400000 in
theorem used_none (h : NoneAt W v) (k : Int) : Calls Tryz.prog 8 #[v, .int .i64 k] W fun e W' => e = .returned (.tuple #[.bool false, .int .i64 1]) ∧ W' = W := by
  have hc := check_none h
  clear h
  go_enter Tryz.func8, Tryz.ntmps8
  go_wp2_with (first | (go_at_call 23; refine hc.mono ?_; rintro e W1 ⟨rfl, rfl⟩))
  exact bodyPost_ret (results_tmp2 rfl _ _ _) rfl ⟨rfl, rfl⟩
set_option maxHeartbeats 400000 in
theorem free_none (h : NoneAt W v) : Calls Tryz.prog 12 #[v] W fun e W' => e = .returned (.tuple #[.int .i64 0, .int .i64 1]) ∧ W' = W := by
  have hc := check_none h
  clear h
  go_enter Tryz.func12, Tryz.ntmps12
  go_wp2_with (first | (go_at_call 23; refine hc.mono ?_; rintro e W1 ⟨rfl, rfl⟩))
  exact bodyPost_ret (results_tmp2 rfl _ _ _) rfl ⟨rfl, rfl⟩
end
end Go.Proofs.YtkcgbhagjkhcmaaGreat
