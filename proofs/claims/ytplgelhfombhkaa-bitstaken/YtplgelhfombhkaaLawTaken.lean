/- BitsTaken's walk: of every block of bytes and every question the call answers true and turns nothing that was there. -/
import Derived.Test.YtplgelhfombhkaaInts
import Derived.Test.YtplgelhfombhkaaLawFirst
import Derived.Test.YtplgelhfombhkaaTakes
import Derived.Test.YtplgelhfombhkaaOrd
namespace Go.Proofs.Ytplgelhfombhkaa
open Go.RowKit

theorem OwnI.setRow {w : World} {base g : Nat} {v : Value} {xs : List Nat} (h : OwnI w base v xs) (hg : g < base) (cs : Array Value) : OwnI (w.setRow g cs) base v xs := by
  refine ⟨h.1, ?_⟩
  rcases h.2 with hn | ⟨g', cap, cur, rfl, hB, hh, rest⟩
  · exact .inl hn
  · exact .inr ⟨g', cap, cur, rfl, hB, (setRow_other w g g' cs (by omega)).trans hh, rest⟩
theorem OwnI.cell {w : World} {base n cap : Nat} {ad : Option Addr} {xs : List Nat} (h : OwnI w base (.slice ad n cap) xs) (i : Nat) (hi : i < xs.length) : ∃ g, ad = some ⟨g, 0, none⟩ ∧ base ≤ g ∧ w.cell? ⟨g, i, none⟩ = some (.int .i64 (xs.getD i 0 : Nat)) := by
  obtain ⟨ad', cap', e, hc⟩ := h.slice
  obtain ⟨g, e', h1, h2⟩ := hc i hi
  injection e with e1
  exact ⟨g, e1.trans e', h1, h2⟩
theorem wpOrd_loadB {ops : Array Oper} {Q : Exit → Act → World → Prop} {S : World → Prop} {r : List (Bool × Oper)} {a : Act} {w : World} {o : Oper} (hw : Region.wanted o (yielded ops a.tmps) = true)
    (x : Operand) (ho : o.op = .load 23 x) (g : Nat) (hx : a.eval x = .pointer (some ⟨g, 0, none⟩)) (f : Nat → Int) (hg : w.heap[g]? = some (.cells (blk f) 23))
    (h : S w ∧ wpOrd Try.prog ops Q S r (a.put o.dst (.agg (blk f))) w) : wpOrd Try.prog ops Q S ((false, o) :: r) a w := by
  simp only [wpOrd, hw, if_true]
  unfold Oper.wp execOp
  simp only [ho, hx, Instr.loadAt, Instr.sureAddr, Sem.run_bind, Sem.run_pure, Result.andThen_ok, run_loadVar_row w g 23 23 (blk f) (0, 0) _ hg Try.underlying23 rfl (by rw [blk_size]; exact size25)]
  exact h
theorem wpOrd_storeB {ops : Array Oper} {Q : Exit → Act → World → Prop} {S : World → Prop} {r : List (Bool × Oper)} {a : Act} {w : World} {o : Oper} (hw : Region.wanted o (yielded ops a.tmps) = true)
    (x y : Operand) (ho : o.op = .store 23 x y) (g : Nat) (f f0 : Nat → Int) (hx : a.eval x = .pointer (some ⟨g, 0, none⟩)) (hy : a.eval y = .agg (blk f)) (hg : w.heap[g]? = some (.cells (blk f0) 23))
    (h : S (w.setRow g (blk f)) ∧ wpOrd Try.prog ops Q S r (a.put o.dst undef) (w.setRow g (blk f))) : wpOrd Try.prog ops Q S ((false, o) :: r) a w := by
  simp only [wpOrd, hw, if_true]
  unfold Oper.wp execOp
  simp only [ho, hx, hy, Instr.storeAt, Instr.sureAddr, Sem.run_bind, Sem.run_pure, Result.andThen_ok, run_storeVar_row w g 23 23 (blk f0) (blk f) hg (by rw [blk_size]; exact size25) (by rw [blk_size, blk_size]) (blk_one f)]
  exact h

set_option maxRecDepth 20000 in
set_option maxHeartbeats 4000000 in
theorem law_taken (f : Nat → Int) (hf : Byte f) (i j : Int) (on : Bool) (a m b : Int) (w : World) :
    Calls Try.prog 8 #[.agg (blk f), .agg (askV i j on a m b)] w fun e w' => e = .returned (.bool true) ∧ Below w.heap.size w w' := by
  have z25 := zero25
  obtain ⟨A, hA, hA8⟩ : ∃ A : Nat, max 0 (min a 8192) = (A : Int) ∧ A ≤ 8192 := ⟨(max 0 (min a 8192)).toNat, by omega, by omega⟩
  obtain ⟨B, hB, hAB, hB8⟩ : ∃ B : Nat, min (max (A : Int) (min b 8192)) ((A : Int) + 200) = (B : Int) ∧ A ≤ B ∧ B ≤ 8192 := ⟨(min (max (A : Int) (min b 8192)) ((A : Int) + 200)).toNat, by omega, by omega, by omega⟩
  have hoz := ones_zeros f A B 8192
  have hcnt := fun w => count_any f hf A B w
  have HZ : Hid ((ones f A B 8192).length + (zeros f A B 8192).length = min B 8192 - A) := hoz
  have hol : (ones f A B 8192).length ≤ 8192 := ones_len f A B 8192
  generalize hone : (ones f A B 8192).length = one at hcnt HZ hol
  clear hoz hone
  have HF : Hid (Byte f) := hf
  clear hf
  unfold askV
  go_enter Try.func8, Try.ntmps8
  go_wp2_with (first | (go_at_call 19; fail))
  refine (lives_any _).mono ?_
  rintro e W1 ⟨rfl, hb1⟩
  have h1 := heap_kept (heap_alloc2_old w (.cells (blk f) 23) (.cells (askV i j on a m b) 25)) hb1
  have h2 := heap_kept (heap_alloc2_new w (.cells (blk f) 23) (.cells (askV i j on a m b) 25)) hb1
  have hb1' : Hid (Below w.heap.size w W1) := below_next (below_two w _ _) hb1
  clear hb1
  obtain ⟨c0, c1, c2, c3, c4, c5⟩ := ask_cells h2
  clear c0 c1 c2 c4 h2
  go_wp2_with (first | refine wpList_load25 rfl _ rfl _ rfl _ h1 ?_ | refine wpList_store25_new rfl _ _ rfl _ _ rfl rfl ?_ | refine wpList_load25 rfl _ rfl _ rfl _ (heap_kept h1 (below_new _ _)) ?_ | (go_at_call 16; fail))
  refine (hcnt _).mono ?_
  rintro e W2 ⟨rfl, hb2⟩
  clear c3 c5 hcnt
  have hg2 := heap_kept (heap_kept h1 (below_new W1 (.cells (blk f) 23))) hb2
  have hw2 := heap_kept (heap_alloc_new W1 (.cells (blk f) 23)) hb2
  have HB2 : Hid (Below w.heap.size w W2) := below_next (below_next hb1'.out (below_new W1 (.cells (blk f) 23))) hb2
  have hlt1 : w.heap.size < W1.heap.size := (Array.getElem?_eq_some_iff.1 h1).1
  have hlt2 : W1.heap.size < W2.heap.size := (Array.getElem?_eq_some_iff.1 hw2).1
  clear hb2 h1 hb1'
  obtain ⟨Z, hZ⟩ : ∃ Z, (zeros f A B 8192).length = Z := ⟨_, rfl⟩
  have HZ' := HZ.out
  rw [hZ] at HZ'
  have hsub : (B : Int) - A - one = (Z : Int) := by omega
  have hZ8 : Z ≤ 8192 := by omega
  have HZZ : Hid ((zeros f A B 8192).length = Z) := hZ
  clear HZ HZ' hZ
  go_wp2
  go_loopw [9, 10, 11] (fun s9 s10 s11 wx => ∃ (F : Nat → Int) (c : Nat), s9 = .int .i64 ((c : Int) - 1) ∧ s11 = .int .i64 ((zeros f A B c).length : Nat) ∧ (zeros f A B c).length ≤ Z ∧ OwnI wx W2.heap.size s10 (zeros f A B c) ∧ Filled f F A c ∧ Byte F ∧ A ≤ c ∧ c ≤ B ∧ wx.heap[w.heap.size]? = some (.cells (blk F) 23) ∧ wx.heap[W1.heap.size]? = some (.cells (blk f) 23) ∧ W2.heap.size ≤ wx.heap.size ∧ Below w.heap.size w wx) (fun _ _ s11 _ => Z - (RowKit.intOf s11).toNat)
  case atStart =>
    have hz0 : zeros f A B A = [] := by
      have := zeros_same f A B 0 A (by omega) fun i _ h => by unfold hole; rw [decide_eq_false (by omega)]; rfl
      rw [this]; rfl
    exact ⟨f, A, by go_num, by rw [hz0]; rfl, by rw [hz0]; simp, by rw [hz0]; exact OwnI.nil _ _, filled_start f A, HF.out, Nat.le_refl _, hAB, hg2, hw2, Nat.le_refl _, HB2.out⟩
  case round =>
    obtain ⟨F, c, rfl, rfl, hzl, hown, hfill, hFb, hAc, hcB, hgF, hgf, hszx, hbel⟩ := hrel
    have HO : Hid (OwnI wr W2.heap.size u10 (zeros f A B c)) := hown
    have HFill : Hid (Filled f F A c) := hfill
    have HBel : Hid (Below w.heap.size w wr) := hbel
    have HGf : Hid (wr.heap[W1.heap.size]? = some (.cells (blk f) 23)) := hgf
    clear hown hfill hbel hgf
    by_cases hlt : (zeros f A B c).length < Z
    · obtain ⟨n, hn1, hn2, hn3, hn4, hn5⟩ := filled_next hAc HFill.out (by rw [HZZ.out]; exact hlt)
      have hfst := fun w => first_any F hFb A B w
      rw [hn1] at hfst
      have hset := fun w => set_any F hFb n true w
      rw [setB_in F n true (by omega)] at hset
      have HFb : Hid (Byte (setN F n true)) := byte_setN hFb n true
      have HN4 : Hid (Filled f (setN F n true) A (n + 1)) := hn4
      have HN5 : Hid (zeros f A B (n + 1) = zeros f A B c ++ [n]) := hn5
      have HN6 : Hid ((zeros f A B (n + 1)).length = (zeros f A B c).length + 1) := by rw [hn5]; exact (List.length_append ..)
      clear hn1 hn4 hn5 hFb HFill
      generalize setN F n true = F' at hset HFb HN4
      have hL8 : (zeros f A B c).length ≤ 8192 := by omega
      generalize hL : (zeros f A B c).length = L at *
      have g1 : ¬ (n : Int) ≤ (c : Int) - 1 := by omega
      have g2 : ¬ (n : Int) ≥ (B : Int) := by omega
      have g3 : (L : Int) < Z := by omega
      go_wp2_with (first | refine wpList_load25 rfl _ rfl _ rfl _ hgF ?_ | (go_at_call 14; fail))
      refine (hfst _).mono ?_
      rintro e X1 ⟨rfl, hx1⟩
      have hgF1 := heap_kept hgF hx1
      have HO1 : Hid (OwnI X1 W2.heap.size u10 (zeros f A B c)) := HO.out.later hx1
      have HBel1 : Hid (Below w.heap.size w X1) := below_next HBel.out hx1
      have HGf1 : Hid (X1.heap[W1.heap.size]? = some (.cells (blk f) 23)) := heap_kept HGf.out hx1
      have hszx1 : W2.heap.size ≤ X1.heap.size := Nat.le_trans hszx hx1.size
      clear hx1 hgF HO HBel HGf hszx hfst
      have g1 : (c : Int) - 1 < n := by omega
      have g2 : (n : Int) < B := by omega
      have g1' : decide ((n : Int) ≤ (c : Int) - 1) = false := decide_eq_false (by omega)
      have g2' : decide ((B : Int) ≤ (n : Int)) = false := decide_eq_false (by omega)
      go_wp2_with (first | refine wpList_load25 rfl _ rfl _ rfl _ hgF1 ?_ | (go_at_call 12; fail))
      refine (hset _).mono ?_
      rintro e X2 ⟨rfl, hx2⟩
      have hgF2 := heap_kept hgF1 hx2
      have hgF3 := setRow_heap X2 w.heap.size (blk F) (blk F') 23 (0, 0) hgF2
      have HO2 : Hid (OwnI (X2.setRow w.heap.size (blk F')) W2.heap.size u10 (zeros f A B c)) := (HO1.out.later hx2).setRow (by omega) _
      have HBel2 : Hid (Below w.heap.size w (X2.setRow w.heap.size (blk F'))) := below_setRow (below_next HBel1.out hx2) (Nat.le_refl _) _
      have HGf2 : Hid ((X2.setRow w.heap.size (blk F')).heap[W1.heap.size]? = some (.cells (blk f) 23)) := (setRow_other X2 w.heap.size W1.heap.size (blk F') (by omega)).trans (heap_kept HGf1.out hx2)
      have hszx2 : W2.heap.size ≤ (X2.setRow w.heap.size (blk F')).heap.size := by rw [setRow_size]; exact Nat.le_trans hszx1 hx2.size
      clear hx2 hgF1 HO1 HBel1 HGf1 hszx1 hset
      rw [← hL] at hL8
      have HL := (show Hid _ from hL)
      clear hL
      go_wp2_with (first | (refine wpList_store25 rfl _ _ rfl _ _ rfl rfl _ hgF2 ?_; clear hgF2; generalize X2.setRow w.heap.size (blk F') = X3 at hgF3 HO2 HBel2 HGf2 hszx2 ⊢) | (at_builtin; refine wpList_pushI rfl (.tmp 59) (.tmp 61) rfl W2.heap.size _ (zeros f A B c) n rfl rfl HO2.out (by omega) hszx2 ?_; intro v' w2 hown' _ hb2))
      refine ⟨⟨F', n + 1, by go_num, ?_, ?_, ?_, HN4.out, HFb.out, by omega, by omega, (hb2.block _ (by omega)).trans hgF3, (hb2.block _ (by omega)).trans HGf2.out, Nat.le_trans hszx2 hb2.size, HBel2.out.trans (hb2.mono (by omega))⟩, by simp [RowKit.intOf]; omega⟩
      · rw [HN6.out]; go_num
      · rw [HN6.out]; omega
      · rw [HN5.out]; exact hown'
    · have hEq : (zeros f A B c).length = Z := by omega
      obtain ⟨e1, e2⟩ := filled_end hAB hB8 HFill.out (hEq.trans HZZ.out.symm)
      have hfst := fun w => first_any F hFb A B w
      rw [e1] at hfst
      have hcnt := fun w => count_any F hFb A B w
      rw [e2] at hcnt
      have HFb : Hid (Byte F) := hFb
      have g3 : ¬ ((zeros f A B c).length : Int) < Z := by omega
      clear e1 e2 hFb hlt
      generalize hT : zeros f A B c = T at *
      have hT8 : T.length ≤ 8192 := by omega
      have hsb : ((B - A : Nat) : Int) = (B : Int) - A := by omega
      rw [hsb] at hcnt
      have HT8 : Hid (∀ i, i < T.length → T.getD i 0 < 8192) := by
        intro i hi
        have hm : T.getD i 0 ∈ T := by simp [hi]
        have := hT ▸ (hT ▸ hm)
        have h2 := (zeros_mem f A B c (T.getD i 0)).1 (by rw [hT]; exact hm)
        omega
      have HE : Hid (∀ G, Cleared F G T → Byte G → blk G = blk f) := fun G h1 h2 => cleared_end hcB HFill.out (by rw [hT]; exact h1) HF.out h2
      clear hT HFill hzl hEq hg2 hw2 HB2 HF HZZ hsub hZ8
      obtain ⟨ad, cap, rfl, hdrop⟩ := HO.out.slice
      clear hdrop
      go_wp2_with (first | refine wpList_load25 rfl _ rfl _ rfl _ hgF ?_ | (go_at_call 14; fail))
      refine (hfst _).mono ?_
      rintro e X1 ⟨rfl, hx1⟩
      have hgF1 := heap_kept hgF hx1
      have HO1 : Hid (OwnI X1 W2.heap.size (.slice ad T.length cap) T) := HO.out.later hx1
      have HBel1 : Hid (Below w.heap.size w X1) := below_next HBel.out hx1
      have HGf1 : Hid (X1.heap[W1.heap.size]? = some (.cells (blk f) 23)) := heap_kept HGf.out hx1
      have hszx1 : W2.heap.size ≤ X1.heap.size := Nat.le_trans hszx hx1.size
      clear hx1 hgF HO HBel HGf hszx hfst
      have hne := later_some X1
      go_wp2_with (first | refine wpList_later_in _ rfl X1 (Below.refl _ _) ?_)
      repeat (first
        | (go_big_quiet_want; refine quiet_load25 _ rfl _ rfl _ hgF1 ?_; simp only [Act.put, List.setIfInBounds_toArray, List.set_cons_succ, List.set_cons_zero]; go_big_quiet_on)
        | go_big_quiet_step (first
            | (go_at_call 16; exact Later.call _ (hcnt _))))
      refine wpQuiet_nil ?_
      rintro _ ⟨y, rfl⟩
      have hgF2 := heap_kept hgF1 y.below
      have HO2 : Hid (OwnI y.val W2.heap.size (.slice ad T.length cap) T) := HO1.out.later y.below
      have HBel2 : Hid (Below w.heap.size w y.val) := below_next HBel1.out y.below
      have HGf2 : Hid (y.val.heap[W1.heap.size]? = some (.cells (blk f) 23)) := heap_kept HGf1.out y.below
      have hszx2 : W2.heap.size ≤ y.val.heap.size := Nat.le_trans hszx1 y.below.size
      clear hgF1 HO1 HBel1 HGf1 hszx1 hcnt
      generalize y.val = X2 at hgF2 HO2 HBel2 HGf2 hszx2 ⊢
      clear y hne X1
      go_wp2
      go_loopw [13] (fun s13 wx => ∃ (i : Nat) (G : Nat → Int), s13 = .int .i64 i ∧ i ≤ T.length ∧ Cleared F G (T.take i) ∧ Byte G ∧ wx.heap[w.heap.size]? = some (.cells (blk G) 23) ∧ wx.heap[W1.heap.size]? = some (.cells (blk f) 23) ∧ OwnI wx W2.heap.size (.slice ad T.length cap) T ∧ W2.heap.size ≤ wx.heap.size ∧ Below w.heap.size w wx) (fun s13 _ => T.length - (RowKit.intOf s13).toNat)
      case atStart => exact ⟨0, F, rfl, by omega, cleared_start F, HFb.out, hgF2, HGf2.out, HO2.out, hszx2, HBel2.out⟩
      case round =>
        obtain ⟨k, G, rfl, hk, hcl, hGb, hgG, hgf, hown, hszw, hbel⟩ := hrel
        by_cases hkT : k < T.length
        · obtain ⟨gt, rfl, hgt, hcell⟩ := hown.cell k hkT
          have hq8 := HT8.out k hkT
          have hset := fun w => set_any G hGb (T.getD k 0) false w
          rw [setB_in G _ false hq8] at hset
          have HN1 : Hid (Cleared F (setN G (T.getD k 0) false) (T.take (k + 1))) := by
            have := cleared_next hcl (T.getD k 0)
            rwa [show T.take k ++ [T.getD k 0] = T.take (k + 1) by rw [List.take_add_one]; simp [hkT]] at this
          have HN2 : Hid (Byte (setN G (T.getD k 0) false)) := byte_setN hGb _ _
          have HO : Hid (OwnI wr W2.heap.size (.slice (some ⟨gt, 0, none⟩) T.length cap) T) := hown
          have HBel := (show Hid _ from hbel)
          have HGf := (show Hid _ from hgf)
          clear hown hbel hgf hcl hGb hgF2 HO2 HBel2 HGf2
          generalize T.getD k 0 = q at *
          generalize setN G q false = G' at hset HN1 HN2
          have hkT' : (k : Int) < T.length := by omega
          go_wp2
          refine wp_region_ord (S := fun u => u.cell? ⟨gt, k, none⟩ = some (.int .i64 (q : Int))) [(1, true), (2, true), (3, true), (4, true), (0, false), (5, false), (6, false)]
            (by kernel_rfl) rfl (by kernel_rfl) (fun d _ _ _ _ h => by cases d <;> exact h) hcell ?_
          simp only [inOrd, List.getElem?_cons_zero, List.getElem?_cons_succ]
          refine wpOrd_move rfl _ rfl ?_
          simp only [Act.put, List.setIfInBounds_toArray, List.set_cons_succ, List.set_cons_zero]
          refine wpOrd_move rfl _ rfl ?_
          simp only [Act.put, List.setIfInBounds_toArray, List.set_cons_succ, List.set_cons_zero]
          refine wpOrd_yield (v := .pointer (some ⟨gt, k, none⟩)) rfl (fun u _ => by go_simp) ?_
          simp only [Act.put, List.setIfInBounds_toArray, List.set_cons_succ, List.set_cons_zero]
          refine wpOrd_yield (v := .int .i64 (q : Int)) rfl (fun u hu => by go_simp) ?_
          simp only [Act.put, List.setIfInBounds_toArray, List.set_cons_succ, List.set_cons_zero]
          refine wpOrd_loadB rfl _ rfl w.heap.size rfl G hgG ⟨hcell, ?_⟩
          simp only [Act.put, List.setIfInBounds_toArray, List.set_cons_succ, List.set_cons_zero]
          refine wpOrd_call rfl 12 _ _ rfl Try.call12 [.agg (blk G), .int .i64 (q : Int), .bool false] rfl ?_
          refine (hset _).mono ?_
          rintro e X3 ⟨rfl, hx3⟩
          have hx3' : Below wr.heap.size wr X3 := (Below.refl _ _).drew.trans hx3
          have hcell3 : X3.cell? ⟨gt, k, none⟩ = some (.int .i64 (q : Int)) := (hx3'.cell (p := ⟨gt, k, none⟩) (block_lt_of_cell hcell)).trans hcell
          refine ⟨_, rfl, hcell3, ?_⟩
          simp only [Act.put, List.setIfInBounds_toArray, List.set_cons_succ, List.set_cons_zero]
          have hgG3 := heap_kept hgG hx3'
          have hgG4 := setRow_heap X3 w.heap.size (blk G) (blk G') 23 (0, 0) hgG3
          have HO4 : Hid (OwnI (X3.setRow w.heap.size (blk G')) W2.heap.size (.slice (some ⟨gt, 0, none⟩) T.length cap) T) := (OwnI.later HO.out hx3').setRow (by omega) _
          have HBel4 : Hid (Below w.heap.size w (X3.setRow w.heap.size (blk G'))) := below_setRow (below_next HBel.out hx3') (Nat.le_refl _) _
          have HGf4 : Hid ((X3.setRow w.heap.size (blk G')).heap[W1.heap.size]? = some (.cells (blk f) 23)) := (setRow_other X3 w.heap.size W1.heap.size (blk G') (by omega)).trans (heap_kept HGf.out hx3')
          have hsz4 : W2.heap.size ≤ (X3.setRow w.heap.size (blk G')).heap.size := by rw [size_setRow]; exact Nat.le_trans hszw hx3'.size
          have hcell4 : (X3.setRow w.heap.size (blk G')).cell? ⟨gt, k, none⟩ = some (.int .i64 (q : Int)) := by
            have h1 : (X3.setRow w.heap.size (blk G')).heap[gt]? = X3.heap[gt]? := setRow_other X3 w.heap.size gt (blk G') (by omega)
            unfold World.cell? at hcell3 ⊢
            rw [h1]
            exact hcell3
          refine wpOrd_storeB rfl _ _ rfl w.heap.size G' G rfl rfl hgG3 ⟨hcell4, ?_⟩
          refine wpOrd_nil ?_
          simp only [Act.put]
          generalize X3.setRow w.heap.size (blk G') = X4 at hgG4 HO4 HBel4 HGf4 hsz4 ⊢
          clear hcell4 hgG3 hcell3 hx3 hx3' hgG hcell HO HBel HGf hset
          go_wp2
          exact ⟨⟨k + 1, G', by go_num, by omega, HN1.out, HN2.out, hgG4, HGf4.out, HO4.out, hsz4, HBel4.out⟩, by simp [RowKit.intOf]; omega⟩
        · have ek : T.take k = T := List.take_of_length_le (by omega)
          rw [ek] at hcl
          have e := HE.out G hcl hGb
          rw [e] at hgG
          have HBel := (show Hid _ from hbel)
          have hkT' : ¬ (k : Int) < T.length := by omega
          clear ek hcl hGb e hown hbel hgF2 HO2 HBel2 HGf2 HE
          have hq := eq25
          have hs := sameB_self
          go_wp2_with (first | refine wpList_load25 rfl _ rfl _ rfl _ hgG ?_ | refine wpList_load25 rfl _ rfl _ rfl _ hgf ?_)
          go_ret
          exact ⟨rfl, HBel.out⟩
end Go.Proofs.Ytplgelhfombhkaa
