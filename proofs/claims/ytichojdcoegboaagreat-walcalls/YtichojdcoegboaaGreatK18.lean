/- Several texts joined: the log, its cache and its disk, of the program and of the document; no condition. -/
import Derived.Test.YtichojdcoegboaaGreatK15
import Derived.Test.YtichojdcoegboaaGreatK17
import Derived.Test.YtichojdcoegboaaGreatK1
namespace Go.Proofs.YtichojdcoegboaaGreatW.H
open Go.RowKit
theorem numN_bd3 (f : Nat → Int) (hf : ∀ i, 0 ≤ f i ∧ f i ≤ 255) (m k : Nat) (h : m ≤ 3) : 0 ≤ numN f k m ∧ numN f k m < 16777216 := by
 have hb := numN_bd f hf m k
 have hm : m = 0 ∨ m = 1 ∨ m = 2 ∨ m = 3 := by omega
 rcases hm with rfl | rfl | rfl | rfl <;> simp at hb <;> omega
theorem numN_step (f : Nat → Int) (k n j : Nat) (hj : j + 1 ≤ n) : numN f (k + j) (n - j) = f (k + j) + 256 * numN f (k + (j + 1)) (n - (j + 1)) := by
 rw [show n - j = (n - (j + 1)) + 1 by omega, numN, Nat.add_assoc]
end Go.Proofs.YtichojdcoegboaaGreatW.H
namespace Go.Proofs.YtichojdcoegboaaGreatW.H
open Go.RowKit
theorem putN_step (g : Nat → Int) (k n i : Nat) (u : Int) (hi : i + 1 ≤ n) : putN g (k + i) u (n - i) = putN (upd g (k + i) (u % 256)) (k + (i + 1)) (u / 256) (n - (i + 1)) := by
 rw [show n - i = (n - (i + 1)) + 1 by omega, putN, Nat.add_assoc]
theorem later1 {w W : World} {o o1 : Obj} (hb : Below ((w.alloc o).alloc o1).heap.size ((w.alloc o).alloc o1) W) : W.heap[w.heap.size + 1]? = some o1 :=
 (hb.block (w.heap.size + 1) (by simp)).trans (heap_alloc2_new _ _ _)
theorem later2 {w W : World} {o o1 : Obj} (hb : Below ((w.alloc o).alloc o1).heap.size ((w.alloc o).alloc o1) W) (g : Nat) (hg : w.heap.size ≤ g) (cs : Array Value) : Below w.heap.size w (W.setRow g cs) :=
 below_setRow ((((Below.refl _ _).alloc (Nat.le_refl _) _).alloc (by simp) _).trans (hb.mono (by simp; omega))) hg cs
end Go.Proofs.YtichojdcoegboaaGreatW.H
namespace Go.Proofs.YtichojdcoegboaaGreatW.H
open Go.RowKit
def wordF (xs : List Int) : Nat → Int := fun j => xs.getD (j / 4) 0 / 256 ^ (j % 4) % 256
abbrev U32 (x : Int) : Prop := 0 ≤ x ∧ x < 4294967296
abbrev AllU (xs : List Int) : Prop := ∀ x ∈ xs, U32 x
theorem wordF_byte (xs : List Int) (j : Nat) : 0 ≤ wordF xs j ∧ wordF xs j ≤ 255 := by
 unfold wordF; omega
theorem wordF_nil : wordF [] = nought := by
 funext j; unfold wordF nought; simp
theorem wordF_at (xs : List Int) (i r : Nat) (hr : r < 4) : wordF xs (4 * i + r) = xs.getD i 0 / 256 ^ r % 256 := by
 unfold wordF
 rw [show (4 * i + r) / 4 = i by omega, show (4 * i + r) % 4 = r by omega]
theorem wordF_snoc (xs : List Int) (x : Int) (hx : U32 x) (hl : xs.length < 256) : put (wordF xs) ((4 * xs.length : Nat) : Int) 4 x = wordF (xs ++ [x]) := by
 rw [put_in _ _ _ _ (by omega), put4 _ _ _ hx]
 funext j
 obtain ⟨i, r, hr, rfl⟩ : ∃ i r, r < 4 ∧ j = 4 * i + r := ⟨j / 4, j % 4, by omega, by omega⟩
 rw [wordF_at _ _ _ hr]
 have hx0 := hx.1
 have hx1 := hx.2
 by_cases hi : i = xs.length
 ·subst hi
  have e : (xs ++ [x]).getD xs.length 0 = x := by simp
  rw [e]
  unfold upd
  have : r = 0 ∨ r = 1 ∨ r = 2 ∨ r = 3 := by omega
  rcases this with rfl | rfl | rfl | rfl
  ·rw [if_neg (by omega), if_neg (by omega), if_neg (by omega), if_pos (by omega)]; simp
  ·rw [if_neg (by omega), if_neg (by omega), if_pos (by omega)]; simp
  ·rw [if_neg (by omega), if_pos (by omega)]; simp
  ·rw [if_pos (by omega)]
   show x / 16777216 = x / 16777216 % 256
   omega
 ·have e : (xs ++ [x]).getD i 0 = xs.getD i 0 := by
   rw [List.getD_eq_getElem?_getD, List.getD_eq_getElem?_getD]
   by_cases h : i < xs.length
   ·rw [List.getElem?_append_left h]
   ·rw [List.getElem?_eq_none (by simp; omega), List.getElem?_eq_none (by omega)]
  rw [e]
  unfold upd
  rw [if_neg (by omega), if_neg (by omega), if_neg (by omega), if_neg (by omega)]
  exact wordF_at _ _ _ hr
def tgts (f : Nat → Int) (n : Nat) : List Int := (List.range n).map fun i => numN f (4 * (i + 1)) 4
theorem tgts_len (f : Nat → Int) (n : Nat) : (tgts f n).length = n := by simp [tgts]
theorem tgts_u (f : Nat → Int) (hf : ∀ i, 0 ≤ f i ∧ f i ≤ 255) (n : Nat) : AllU (tgts f n) := fun x hx => by
 obtain ⟨i, _, rfl⟩ := List.mem_map.1 hx
 exact numN_bd f hf 4 _
theorem tgts_get (f : Nat → Int) (n i : Nat) (h : i < n) : (tgts f n)[i]? = some (numN f (4 * (i + 1)) 4) := by simp [tgts, h]
theorem u_wf {x : Int} (h : U32 x) : (Lit.int .i64 x).wf = true := WalkArith.wf_i64 (by omega)
theorem allU_wf {xs : List Int} (h : AllU xs) : WfI xs := fun t ht => u_wf (h t ht)
def headF (ts : List Int) : Nat → Int := wordF ((ts.length : Int) :: ts)
end Go.Proofs.YtichojdcoegboaaGreatW.H
namespace Go.Proofs.YtichojdcoegboaaGreatW.H
open Go.RowKit
theorem load30L (w : World) (g : Nat) (f : Nat → Int) (h : w.heap[g]? = some (.cells (blk f) 64)) : (loadVar 64 ⟨g, 0, none⟩).run Tryz.prog w = .ok (.agg (blk f)) w :=
 run_loadVar_row w g 64 64 (blk f) (0, 0) _ h Tryz.underlying64 rfl (by rw [blk_size]; exact size25)
theorem wpOrd_loadF {ops : Array Oper} {Q : Exit → Act → World → Prop} {S : World → Prop} {r : List (Bool × Oper)} {a : Act} {w : World} {o : Oper} (hw : Region.wanted o (yielded ops a.tmps) = true)
  (x : Operand) (ho : o.op = .load 64 x) (g : Nat) (hx : a.eval x = .pointer (some ⟨g, 0, none⟩)) (f : Nat → Int) (hg : w.heap[g]? = some (.cells (blk f) 64))
  (h : S w ∧ wpOrd Tryz.prog ops Q S r (a.put o.dst (.agg (blk f))) w) : wpOrd Tryz.prog ops Q S ((false, o) :: r) a w := by
 simp only [wpOrd, hw, if_true]
 unfold Oper.wp execOp
 simp only [ho, hx, Instr.loadAt, Instr.sureAddr, Sem.run_bind, Sem.run_pure, Result.andThen_ok, run_loadVar_row w g 64 64 (blk f) (0, 0) _ hg Tryz.underlying64 rfl (by rw [blk_size]; exact size25)]
 exact h
theorem wpOrd_storeB {ops : Array Oper} {Q : Exit → Act → World → Prop} {S : World → Prop} {r : List (Bool × Oper)} {a : Act} {w : World} {o : Oper} (hw : Region.wanted o (yielded ops a.tmps) = true)
  (x y : Operand) (ho : o.op = .store 64 x y) (g : Nat) (f f0 : Nat → Int) (hx : a.eval x = .pointer (some ⟨g, 0, none⟩)) (hy : a.eval y = .agg (blk f)) (hg : w.heap[g]? = some (.cells (blk f0) 64))
  (h : S (w.setRow g (blk f)) ∧ wpOrd Tryz.prog ops Q S r (a.put o.dst undef) (w.setRow g (blk f))) : wpOrd Tryz.prog ops Q S ((false, o) :: r) a w := by
 simp only [wpOrd, hw, if_true]
 unfold Oper.wp execOp
 simp only [ho, hx, hy, Instr.storeAt, Instr.sureAddr, Sem.run_bind, Sem.run_pure, Result.andThen_ok, run_storeVar_row w g 64 64 (blk f0) (blk f) hg (by rw [blk_size]; exact size25) (by rw [blk_size, blk_size]) (blk_one f)]
 exact h
theorem place_any (k : Int) (w : World) (h : 0 ≤ k ∧ k ≤ 300) : Calls Tryz.prog 129 #[.int .i64 k] w fun e w' => e = .returned (.int .i64 (4 * (k + 1))) ∧ w' = w := by
 go_enter Tryz.func129, Tryz.ntmps129
 go_wp2
 go_ret
 exact ⟨by congr 2, rfl⟩
theorem heap3o (w : World) (A B C : Obj) : (((w.alloc A).alloc B).alloc C).heap[w.heap.size]? = some A := by
 rw [heap_alloc_old _ _ (by simp; omega)]; exact heap_alloc2_old _ _ _
theorem cell_one {w : World} {g : Nat} {v : Value} {t : TypeId} (h : w.heap[g]? = some (.cells #[v] t)) : w.cell? ⟨g, 0, none⟩ = some v := by
 rw [cell_of_row w g _ _ t _ h]; rfl
theorem below3 (w : World) (A B C : Obj) : Below w.heap.size w (((w.alloc A).alloc B).alloc C) := bel_al (bel_al (below_new _ _) _) _
set_option maxRecDepth 20000 in
set_option maxHeartbeats 400000 in
theorem enc_not (b l i a c d e f g : Int) (v : Value) (w : World) (hb : I64 b) (hs : standsB b l i a c d e f g = false) :
  Calls Tryz.prog 103 #[.agg (lay9 b l i a c d e f g), .agg #[v]] w fun e' w' => e' = .returned (.tuple #[.agg (blk nought), .int .i64 2]) ∧ Below w.heap.size w w' := by
 have hc := fun w => hstands_any b l i a c d e f g w hb
 rw [hs] at hc
 clear hs
 have z25 := zero25
 have hsz : (lay9 b l i a c d e f g).size = 9 := rfl
 generalize lay9 b l i a c d e f g = L at *
 go_enter Tryz.func103, Tryz.ntmps103
 go_wp2_with (first | refine wpList_loadL rfl _ rfl _ rfl _ hsz (heap3o _ _ _ _) ?_ | (go_at_call 126; fail))
 refine (hc _).mono ?_
 rintro e' W1 ⟨rfl, hb1⟩
 have h2 := heap_kept (heap3n w _ _ _) hb1
 have HB : Hid (Below w.heap.size w W1) := below_next (below3 _ _ _ _) hb1
 clear hb1 hc
 go_wp2_with (first | refine wpList_store25 rfl _ _ rfl _ _ rfl rfl _ h2 ?_)
 refine retCT rfl (w.heap.size + 2) _ rfl (load30L _ _ _ (setRow_heap _ _ _ _ _ _ h2)) rfl ⟨rfl, below_setRow HB.out (by omega) _⟩
end Go.Proofs.YtichojdcoegboaaGreatW.H
namespace Go.Proofs.YtichojdcoegboaaGreatW.H
open Go.RowKit
theorem MayP.u {lo hi m : Int} {ts : List Int} (h : MayP lo hi m ts) (h0 : 0 ≤ lo) (h1 : hi ≤ 4294967296) : AllU ts := fun x hx => by
 have := h.2.1 x hx
 exact ⟨by omega, by omega⟩
set_option maxRecDepth 20000 in
set_option maxHeartbeats 2000000 in
theorem enc_ok (b l i a c d e f g : Int) (ts : List Int) (p : Option Addr) (cap : Nat) (w : World) (hb : I64 b) (hs : standsB b l i a c d e f g = true) (hl : 32 ≤ l ∧ l ≤ 256) (hts : IntsAt w p ts) (hu : AllU ts) (hn : ts.length ≤ 255)
  (hm : mayB c b (l - 1) ts = true) :
  Calls Tryz.prog 103 #[.agg (lay9 b l i a c d e f g), .agg #[.slice p ts.length cap]] w fun e' w' => e' = .returned (.tuple #[.agg (blk (headF ts)), .int .i64 0]) ∧ Below w.heap.size w w' := by
 have hc := fun w => hstands_any b l i a c d e f g w hb
 rw [hs] at hc
 have hM := fun W (h : IntsAt W p ts) => may_any b l i a c d e f g ts p cap W hl (by omega) h (allU_wf hu)
 rw [hm] at hM
 clear hs hm
 have z25 := zero25
 have hsz : (lay9 b l i a c d e f g).size = 9 := rfl
 obtain ⟨n, hnn⟩ : ∃ n, ts.length = n := ⟨_, rfl⟩
 have HT : Hid (IntsAt w p ts ∧ AllU ts ∧ ts.length = n) := ⟨hts, hu, hnn⟩
 unfold headF
 rw [hnn] at hn hM ⊢
 clear hts hu hnn
 generalize lay9 b l i a c d e f g = L at *
 have HM : Hid (∀ W, IntsAt W p ts → Calls Tryz.prog 127 #[.agg L, .slice p n cap] W fun e' w' => e' = .returned (.bool true) ∧ Below W.heap.size W w') := hM
 clear hM
 have HS0 : Hid (put nought 0 4 (n : Int) = wordF [(n : Int)]) := by
  have := wordF_snoc [] (n : Int) ⟨by omega, by omega⟩ (by simp)
  rw [wordF_nil] at this
  exact this
 go_enter Tryz.func103, Tryz.ntmps103
 go_wp2_with (first | refine wpList_loadL rfl _ rfl _ rfl _ hsz (heap3o _ _ _ _) ?_ | (go_at_call 126; fail))
 refine (hc _).mono ?_
 rintro e' W1 ⟨rfl, hb1⟩
 have h0 := heap_kept (heap3o w _ _ _) hb1
 have h1 := heap_kept (heap3 w _ _ _) hb1
 have h2 := heap_kept (heap3n w _ _ _) hb1
 have HB : Hid (Below w.heap.size w W1) := below_next (below3 _ _ _ _) hb1
 clear hb1 hc
 have h1c := cell_one h1
 go_wp2_with (first | refine wpList_loadL rfl _ rfl _ rfl _ hsz h0 ?_ | (go_at_call 127; fail))
 refine (HM.out _ (HT.out.1.later HB.out)).mono ?_
 rintro e' W2 ⟨rfl, hb2⟩
 have h3 := heap_kept h2 hb2
 have h4 := heap_kept h1 hb2
 have HB2 : Hid (Below w.heap.size w W2) := below_next HB.out hb2
 clear hb2 HM h0 h1 h2 HB h1c
 have h4c := cell_one h4
 have hwr : IntKind.u32.wrap (n : Int) = n := by rw [wrap_u32]; omega
 go_wp2_with (first | (go_at_call 128; fail))
 refine (set32_any nought 0 (n : Int) _ (by omega)).mono ?_
 rintro e' W3 ⟨rfl, hb3⟩
 rw [HS0.out]
 have h5 := heap_kept h3 hb3
 have h6 := heap_kept h4 hb3
 have HB3 : Hid (Below w.heap.size w W3) := below_next HB2.out hb3
 have hlt : w.heap.size + 2 < W3.heap.size := (Array.getElem?_eq_some_iff.1 h5).1
 clear hb3 h3 h4 HB2 h4c
 have h6c := cell_one h6
 have h6d := cell_one (heap_kept h6 (below_new W3 (.cells (blk (wordF [(n : Int)])) 64)))
 go_wp2_with (first | refine wpList_store25_new rfl _ _ rfl _ _ rfl rfl ?_)
 go_loopw [28] (fun s28 wx => ∃ k : Nat, k ≤ n ∧ s28 = .int .i64 k ∧ wx.heap[W3.heap.size]? = some (.cells (blk (wordF ((n : Int) :: ts.take k))) 64) ∧ Below W3.heap.size W3 wx) (fun s28 _ => n - (intOf s28).toNat)
 case atStart => exact ⟨0, by omega, rfl, heap_alloc_new _ _, below_new _ _⟩
 case round =>
  obtain ⟨k, hk, rfl, hg, hbel⟩ := hrel
  have HW : Hid _ := hbel
  clear hbel
  by_cases hk2 : (k : Int) < n
  ·obtain ⟨hts, hu, hnn⟩ := HT.out
   have hx : ts[k]? = some ts[k] := List.getElem?_eq_getElem (by omega)
   have htk : ts.take (k + 1) = ts.take k ++ [ts[k]] := by rw [List.take_add_one, hx]; rfl
   have hxu := hu _ (List.getElem_mem (by omega : k < ts.length))
   obtain ⟨b1, o1, rfl, l1, C1⟩ := hts (by omega)
   generalize ts[k] = x at hx htk hxu
   have q1 : wr.cell? ⟨b1, o1 + k, none⟩ = some (.int .i64 x) := (HW.out.cell (p := ⟨b1, o1 + k, none⟩) (by show b1 < W3.heap.size; omega)).trans ((HB3.out.cell (p := ⟨b1, o1 + k, none⟩) l1).trans (C1 k x hx))
   have hst := fun (w : World) => set32_any (wordF ((n : Int) :: ts.take k)) (4 * ((k : Int) + 1)) x w hxu
   have hpl := fun (w : World) => place_any k w (by omega)
   have hsn := wordF_snoc ((n : Int) :: ts.take k) x hxu (by simp; omega)
   rw [show (((n : Int) :: ts.take k).length : Nat) = k + 1 by simp; omega, List.cons_append, ← htk] at hsn
   rw [show 4 * ((k : Int) + 1) = ((4 * (k + 1) : Nat) : Int) by omega, hsn, show ((4 * (k + 1) : Nat) : Int) = 4 * ((k : Int) + 1) by omega] at hst
   have HST : Hid _ := hst
   have HPL : Hid _ := hpl
   have hwx : IntKind.u32.wrap x = x := by rw [wrap_u32]; omega
   generalize wordF ((n : Int) :: ts.take k) = F at *
   generalize hF' : wordF ((n : Int) :: ts.take (k + 1)) = F' at *
   have HF' : Hid _ := hF'
   clear hst hpl hsn hx htk hu hts hnn C1 hF'
   go_wp2
   refine wp_region_fork (S := fun _ => True) [1, 3, 4] 0 2 [(5, false), (6, false)] (by kernel_rfl) rfl (by kernel_rfl) (fun d _ _ _ _ h => by cases d <;> exact h) trivial ?_
   refine wpFork_yield (v := .int .i64 (k : Int)) rfl rfl (fun u _ => by simp [execOp, Act.eval]) ?_
   simp only [Act.put, pA, pB, pC]
   refine wpFork_yield (v := .int .i64 x) rfl rfl (fun u _ => by simp [execOp, Act.eval]) ?_
   simp only [Act.put, pA, pB, pC]
   refine wpFork_yield (v := .int .u32 x) rfl rfl (fun u _ => by go_simp) ?_
   simp only [Act.put, pA, pB, pC]
   have hg0 : wr.drew.heap[W3.heap.size]? = some (.cells (blk F) 64) := hg
   have HBd : Hid (Below W3.heap.size W3 wr.drew) := HW.out.drew
   clear hg HW q1
   generalize wr.drew = wd at *
   refine wpFork_nil rfl rfl ?_ ?_
   ·simp only [inOrd, List.getElem?_cons_zero, List.getElem?_cons_succ]
    refine wpOrd_loadF rfl _ rfl _ rfl _ hg0 ⟨trivial, ?_⟩
    simp only [Act.put, pA, pB, pC]
    refine wpOrd_call rfl 129 _ _ rfl Tryz.call129 [.int .i64 (k : Int)] rfl ?_
    refine (HPL.out _).mono ?_
    rintro e' X ⟨rfl, rfl⟩
    refine ⟨_, rfl, trivial, ?_⟩
    simp only [Act.put, pA, pB, pC]
    refine wpOrd_call rfl 128 _ _ rfl Tryz.call128 [.agg (blk F), .int .i64 (4 * ((k : Int) + 1)), .int .u32 x] rfl ?_
    refine (HST.out _).mono ?_
    rintro e' X ⟨rfl, hbx⟩
    refine ⟨_, rfl, trivial, ?_⟩
    simp only [Act.put, pA, pB, pC]
    have hg1 := heap_kept hg0 hbx
    have HB1 : Hid (Below W3.heap.size W3 X) := below_next HBd.out hbx
    refine wpOrd_storeB rfl _ _ rfl W3.heap.size F' _ rfl rfl hg1 ⟨trivial, ?_⟩
    refine wpOrd_nil ?_
    have hg2 := setRow_heap X W3.heap.size (blk F) (blk F') 64 (0, 0) hg1
    have HB2' : Hid (Below W3.heap.size W3 (X.setRow W3.heap.size (blk F'))) := below_setRow HB1.out (Nat.le_refl _) _
    simp only [Act.put]
    generalize X.setRow W3.heap.size (blk F') = Y at hg2 HB2' ⊢
    clear hg1 hg0 HB1 HBd hbx HST HPL
    go_wp2
    exact ⟨⟨k + 1, by omega, by go_num, by rw [HF'.out]; exact hg2, HB2'.out⟩, by simp [intOf]; omega⟩
   ·simp only [inOrd, List.getElem?_cons_zero, List.getElem?_cons_succ]
    refine wpOrd_call rfl 129 _ _ rfl Tryz.call129 [.int .i64 (k : Int)] rfl ?_
    refine (HPL.out _).mono ?_
    rintro e' X ⟨rfl, rfl⟩
    refine ⟨_, rfl, trivial, ?_⟩
    simp only [Act.put, pA, pB, pC]
    refine wpOrd_loadF rfl _ rfl _ rfl _ hg0 ⟨trivial, ?_⟩
    simp only [Act.put, pA, pB, pC]
    refine wpOrd_call rfl 128 _ _ rfl Tryz.call128 [.agg (blk F), .int .i64 (4 * ((k : Int) + 1)), .int .u32 x] rfl ?_
    refine (HST.out _).mono ?_
    rintro e' X ⟨rfl, hbx⟩
    refine ⟨_, rfl, trivial, ?_⟩
    simp only [Act.put, pA, pB, pC]
    have hg1 := heap_kept hg0 hbx
    have HB1 : Hid (Below W3.heap.size W3 X) := below_next HBd.out hbx
    refine wpOrd_storeB rfl _ _ rfl W3.heap.size F' _ rfl rfl hg1 ⟨trivial, ?_⟩
    refine wpOrd_nil ?_
    have hg2 := setRow_heap X W3.heap.size (blk F) (blk F') 64 (0, 0) hg1
    have HB2' : Hid (Below W3.heap.size W3 (X.setRow W3.heap.size (blk F'))) := below_setRow HB1.out (Nat.le_refl _) _
    simp only [Act.put]
    generalize X.setRow W3.heap.size (blk F') = Y at hg2 HB2' ⊢
    clear hg1 hg0 HB1 HBd hbx HST HPL
    go_wp2
    exact ⟨⟨k + 1, by omega, by go_num, by rw [HF'.out]; exact hg2, HB2'.out⟩, by simp [intOf]; omega⟩
  ·obtain rfl : k = n := by omega
   rw [List.take_of_length_le (by have := HT.out.2.2; omega)] at hg
   have h5' := (HW.out.block _ hlt).trans h5
   generalize hF : wordF ((k : Int) :: ts) = F at *
   have HF : Hid _ := hF
   clear hk HT hF
   go_wp2_with (first | refine wpList_load25 rfl _ rfl _ rfl _ hg ?_ | refine wpList_store25 rfl _ _ rfl _ _ rfl rfl _ h5' ?_)
   exact retCT rfl (w.heap.size + 2) _ rfl (load30L _ _ _ (setRow_heap _ _ _ _ _ _ h5')) rfl ⟨by rw [HF.out]; rfl, below_setRow (below_next HB3.out HW.out) (by omega) _⟩
end Go.Proofs.YtichojdcoegboaaGreatW.H
