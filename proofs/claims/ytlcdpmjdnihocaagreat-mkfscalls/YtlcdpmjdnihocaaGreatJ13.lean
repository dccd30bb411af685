/- Several texts joined, each with its own remark; no condition. -/
import Derived.Test.YtlcdpmjdnihocaaGreatJ11
import Derived.Test.YtlcdpmjdnihocaaGreatJ12
import Derived.Test.YtlcdpmjdnihocaaGreatJ9
import Derived.Test.YtlcdpmjdnihocaaGreatJ5
import Derived.Deep.Cut
import Derived.Deep.CutRange

/- The document's own U16, U32: the number of the bytes at a place, or nought; for every block of bytes and every place. -/
namespace Go.Proofs.YtlcdpmjdnihocaaGreatH.H
open Go.RowKit

theorem numN_bd3 (f : Nat → Int) (hf : ∀ i, 0 ≤ f i ∧ f i ≤ 255) (m k : Nat) (h : m ≤ 3) : 0 ≤ numN f k m ∧ numN f k m < 16777216 := by
  have hb := numN_bd f hf m k
  have hm : m = 0 ∨ m = 1 ∨ m = 2 ∨ m = 3 := by omega
  rcases hm with rfl | rfl | rfl | rfl <;> simp at hb <;> omega
theorem numN_step (f : Nat → Int) (k n j : Nat) (hj : j + 1 ≤ n) : numN f (k + j) (n - j) = f (k + j) + 256 * numN f (k + (j + 1)) (n - (j + 1)) := by
  rw [show n - j = (n - (j + 1)) + 1 by omega, numN, Nat.add_assoc]

end Go.Proofs.YtlcdpmjdnihocaaGreatH.H
/- The document's own SetU16, SetU32: the block in which a number is laid; for every block, place and number. -/
namespace Go.Proofs.YtlcdpmjdnihocaaGreatH.H
open Go.RowKit

theorem putN_step (g : Nat → Int) (k n i : Nat) (u : Int) (hi : i + 1 ≤ n) : putN g (k + i) u (n - i) = putN (upd g (k + i) (u % 256)) (k + (i + 1)) (u / 256) (n - (i + 1)) := by
  rw [show n - i = (n - (i + 1)) + 1 by omega, putN, Nat.add_assoc]

theorem later1 {w W : World} {o o1 : Obj} (hb : Below ((w.alloc o).alloc o1).heap.size ((w.alloc o).alloc o1) W) : W.heap[w.heap.size + 1]? = some o1 :=
  (hb.block (w.heap.size + 1) (by simp)).trans (heap_alloc2_new _ _ _)
theorem later2 {w W : World} {o o1 : Obj} (hb : Below ((w.alloc o).alloc o1).heap.size ((w.alloc o).alloc o1) W) (g : Nat) (hg : w.heap.size ≤ g) (cs : Array Value) : Below w.heap.size w (W.setRow g cs) :=
  below_setRow ((((Below.refl _ _).alloc (Nat.le_refl _) _).alloc (by simp) _).trans (hb.mono (by simp; omega))) hg cs
end Go.Proofs.YtlcdpmjdnihocaaGreatH.H
/- A block as numbers of four bytes, one behind the other; plain. -/
namespace Go.Proofs.YtlcdpmjdnihocaaGreatH.H
open Go.RowKit
/-- The block that begins with these numbers, noughts behind them. -/
def wordF (xs : List Int) : Nat → Int := fun j => xs.getD (j / 4) 0 / 256 ^ (j % 4) % 256
abbrev U32 (x : Int) : Prop := 0 ≤ x ∧ x < 4294967296
abbrev AllU (xs : List Int) : Prop := ∀ x ∈ xs, U32 x
theorem getD_u {xs : List Int} (h : AllU xs) (i : Nat) : U32 (xs.getD i 0) := by
  rw [List.getD_eq_getElem?_getD]
  by_cases hi : i < xs.length
  · rw [List.getElem?_eq_getElem hi]; exact h _ (List.getElem_mem _)
  · rw [List.getElem?_eq_none (by omega)]; exact ⟨by decide, by decide⟩
theorem wordF_byte (xs : List Int) (j : Nat) : 0 ≤ wordF xs j ∧ wordF xs j ≤ 255 := by
  unfold wordF; omega
theorem wordF_nil : wordF [] = nought := by
  funext j; unfold wordF nought; simp
theorem wordF_at (xs : List Int) (i r : Nat) (hr : r < 4) : wordF xs (4 * i + r) = xs.getD i 0 / 256 ^ r % 256 := by
  unfold wordF
  rw [show (4 * i + r) / 4 = i by omega, show (4 * i + r) % 4 = r by omega]
theorem wordF_snoc (xs : List Int) (x : Int) (hx : U32 x) (hl : xs.length < 256) : put (wordF xs) ((4 * xs.length : Nat) : Int) 4 x = wordF (xs ++ [x]) := by
  rw [put_in _ _ _ _ (by omega), put4 _ _ _ hx]
  funext j
  obtain ⟨i, r, hr, rfl⟩ : ∃ i r, r < 4 ∧ j = 4 * i + r := ⟨j / 4, j % 4, by omega, by omega⟩
  rw [wordF_at _ _ _ hr]
  have hx0 := hx.1
  have hx1 := hx.2
  by_cases hi : i = xs.length
  · subst hi
    have e : (xs ++ [x]).getD xs.length 0 = x := by simp
    rw [e]
    unfold upd
    have : r = 0 ∨ r = 1 ∨ r = 2 ∨ r = 3 := by omega
    rcases this with rfl | rfl | rfl | rfl
    · rw [if_neg (by omega), if_neg (by omega), if_neg (by omega), if_pos (by omega)]; simp
    · rw [if_neg (by omega), if_neg (by omega), if_pos (by omega)]; simp
    · rw [if_neg (by omega), if_pos (by omega)]; simp
    · rw [if_pos (by omega)]
      show x / 16777216 = x / 16777216 % 256
      omega
  · have e : (xs ++ [x]).getD i 0 = xs.getD i 0 := by
      rw [List.getD_eq_getElem?_getD, List.getD_eq_getElem?_getD]
      by_cases h : i < xs.length
      · rw [List.getElem?_append_left h]
      · rw [List.getElem?_eq_none (by simp; omega), List.getElem?_eq_none (by omega)]
    rw [e]
    unfold upd
    rw [if_neg (by omega), if_neg (by omega), if_neg (by omega), if_neg (by omega)]
    exact wordF_at _ _ _ hr
theorem wordF_read (xs : List Int) (h : AllU xs) (i : Nat) : numN (wordF xs) (4 * i) 4 = xs.getD i 0 := by
  rw [num4, show 4 * i = 4 * i + 0 by omega, wordF_at _ _ 0 (by omega), show 4 * i + 0 + 1 = 4 * i + 1 by omega, show 4 * i + 0 + 2 = 4 * i + 2 by omega, show 4 * i + 0 + 3 = 4 * i + 3 by omega, wordF_at _ _ 1 (by omega), wordF_at _ _ 2 (by omega), wordF_at _ _ 3 (by omega)]
  have := getD_u h i
  generalize xs.getD i 0 = x at *
  obtain ⟨h0, h1⟩ := this
  show x / 1 % 256 + 256 * (x / 256 % 256) + 65536 * (x / 65536 % 256) + 16777216 * (x / 16777216 % 256) = x
  omega
/-- The targets that a block says. -/
def tgts (f : Nat → Int) (n : Nat) : List Int := (List.range n).map fun i => numN f (4 * (i + 1)) 4
theorem tgts_len (f : Nat → Int) (n : Nat) : (tgts f n).length = n := by simp [tgts]
theorem tgts_u (f : Nat → Int) (hf : ∀ i, 0 ≤ f i ∧ f i ≤ 255) (n : Nat) : AllU (tgts f n) := fun x hx => by
  obtain ⟨i, _, rfl⟩ := List.mem_map.1 hx
  exact numN_bd f hf 4 _
theorem tgts_get (f : Nat → Int) (n i : Nat) (h : i < n) : (tgts f n)[i]? = some (numN f (4 * (i + 1)) 4) := by simp [tgts, h]
theorem u_wf {x : Int} (h : U32 x) : (Lit.int .i64 x).wf = true := WalkArith.wf_i64 (by omega)
theorem allU_wf {xs : List Int} (h : AllU xs) : WfI xs := fun t ht => u_wf (h t ht)
/-- The header's block. -/
def headF (ts : List Int) : Nat → Int := wordF ((ts.length : Int) :: ts)
theorem head_tgts (ts zs : List Int) (h : AllU ts) (hz : AllU zs) (hl : (ts.length : Int) < 4294967296) : tgts (wordF ((ts.length : Int) :: (ts ++ zs))) ts.length = ts := by
  refine List.ext_getElem? fun i => ?_
  by_cases hi : i < ts.length
  · rw [tgts_get _ _ _ hi, wordF_read _ (fun x hx => by
      rcases List.mem_cons.1 hx with rfl | hx
      · exact ⟨by omega, hl⟩
      · rcases List.mem_append.1 hx with hx | hx
        · exact h x hx
        · exact hz x hx)]
    rw [List.getD_eq_getElem?_getD, List.getElem?_cons_succ, List.getElem?_append_left hi, List.getElem?_eq_getElem hi]
    rfl
  · rw [List.getElem?_eq_none (by rw [tgts_len]; omega), List.getElem?_eq_none (by omega)]
end Go.Proofs.YtlcdpmjdnihocaaGreatH.H
/- Encode of head: the header's block, or none; for every layout and every list of targets. -/
namespace Go.Proofs.YtlcdpmjdnihocaaGreatH.H
open Go.RowKit
theorem load30L (w : World) (g : Nat) (f : Nat → Int) (h : w.heap[g]? = some (.cells (blk f) 79)) : (loadVar 79 ⟨g, 0, none⟩).run Tryz.prog w = .ok (.agg (blk f)) w :=
  run_loadVar_row w g 79 79 (blk f) (0, 0) _ h Tryz.underlying79 rfl (by rw [blk_size]; exact size25)
theorem wpOrd_loadB {ops : Array Oper} {Q : Exit → Act → World → Prop} {S : World → Prop} {r : List (Bool × Oper)} {a : Act} {w : World} {o : Oper} (hw : Region.wanted o (yielded ops a.tmps) = true)
    (x : Operand) (ho : o.op = .load 79 x) (g : Nat) (hx : a.eval x = .pointer (some ⟨g, 0, none⟩)) (f : Nat → Int) (hg : ∀ u, S u → u.heap[g]? = some (.cells (blk f) 79))
    (h : wpOrd Tryz.prog ops Q S r (a.put o.dst (.agg (blk f))) w) : wpOrd Tryz.prog ops Q S ((true, o) :: r) a w := by
  refine wpOrd_yield hw (fun u hu => ?_) h
  unfold execOp
  simp only [ho, hx, Instr.loadAt, Instr.sureAddr, Sem.run_bind, Sem.run_pure, Result.andThen_ok, run_loadVar_row u g 79 79 (blk f) (0, 0) _ (hg u hu) Tryz.underlying79 rfl (by rw [blk_size]; exact size25)]
theorem wpOrd_loadF {ops : Array Oper} {Q : Exit → Act → World → Prop} {S : World → Prop} {r : List (Bool × Oper)} {a : Act} {w : World} {o : Oper} (hw : Region.wanted o (yielded ops a.tmps) = true)
    (x : Operand) (ho : o.op = .load 79 x) (g : Nat) (hx : a.eval x = .pointer (some ⟨g, 0, none⟩)) (f : Nat → Int) (hg : w.heap[g]? = some (.cells (blk f) 79))
    (h : S w ∧ wpOrd Tryz.prog ops Q S r (a.put o.dst (.agg (blk f))) w) : wpOrd Tryz.prog ops Q S ((false, o) :: r) a w := by
  simp only [wpOrd, hw, if_true]
  unfold Oper.wp execOp
  simp only [ho, hx, Instr.loadAt, Instr.sureAddr, Sem.run_bind, Sem.run_pure, Result.andThen_ok, run_loadVar_row w g 79 79 (blk f) (0, 0) _ hg Tryz.underlying79 rfl (by rw [blk_size]; exact size25)]
  exact h
theorem wpOrd_storeB {ops : Array Oper} {Q : Exit → Act → World → Prop} {S : World → Prop} {r : List (Bool × Oper)} {a : Act} {w : World} {o : Oper} (hw : Region.wanted o (yielded ops a.tmps) = true)
    (x y : Operand) (ho : o.op = .store 79 x y) (g : Nat) (f f0 : Nat → Int) (hx : a.eval x = .pointer (some ⟨g, 0, none⟩)) (hy : a.eval y = .agg (blk f)) (hg : w.heap[g]? = some (.cells (blk f0) 79))
    (h : S (w.setRow g (blk f)) ∧ wpOrd Tryz.prog ops Q S r (a.put o.dst undef) (w.setRow g (blk f))) : wpOrd Tryz.prog ops Q S ((false, o) :: r) a w := by
  simp only [wpOrd, hw, if_true]
  unfold Oper.wp execOp
  simp only [ho, hx, hy, Instr.storeAt, Instr.sureAddr, Sem.run_bind, Sem.run_pure, Result.andThen_ok, run_storeVar_row w g 79 79 (blk f0) (blk f) hg (by rw [blk_size]; exact size25) (by rw [blk_size, blk_size]) (blk_one f)]
  exact h
theorem place_any (k : Int) (w : World) (h : 0 ≤ k ∧ k ≤ 300) : Calls Tryz.prog 96 #[.int .i64 k] w fun e w' => e = .returned (.int .i64 (4 * (k + 1))) ∧ w' = w := by
  go_enter Tryz.func96, Tryz.ntmps96
  go_wp2
  go_ret
  exact ⟨by congr 2, rfl⟩
theorem heap3o (w : World) (A B C : Obj) : (((w.alloc A).alloc B).alloc C).heap[w.heap.size]? = some A := by
  rw [heap_alloc_old _ _ (by simp; omega)]; exact heap_alloc2_old _ _ _
theorem cell_one {w : World} {g : Nat} {v : Value} {t : TypeId} (h : w.heap[g]? = some (.cells #[v] t)) : w.cell? ⟨g, 0, none⟩ = some v := by
  rw [cell_of_row w g _ _ t _ h]; rfl
theorem below3 (w : World) (A B C : Obj) : Below w.heap.size w (((w.alloc A).alloc B).alloc C) := bel_al (bel_al (below_new _ _) _) _
set_option maxRecDepth 20000 in
set_option maxHeartbeats 400000 in
theorem enc_not (b l i a c d e f g : Int) (v : Value) (w : World) (hb : I64 b) (hs : standsB b l i a c d e f g = false) :
    Calls Tryz.prog 60 #[.agg (lay9 b l i a c d e f g), .agg #[v]] w fun e' w' => e' = .returned (.tuple #[.agg (blk nought), .int .i64 2]) ∧ Below w.heap.size w w' := by
  have hc := fun w => hstands_any b l i a c d e f g w hb
  rw [hs] at hc
  clear hs
  have z25 := zero25
  have hsz : (lay9 b l i a c d e f g).size = 9 := rfl
  generalize lay9 b l i a c d e f g = L at *
  go_enter Tryz.func60, Tryz.ntmps60
  go_wp2_with (first | refine wpList_loadL rfl _ rfl _ rfl _ hsz (heap3o _ _ _ _) ?_ | (go_at_call 93; fail))
  refine (hc _).mono ?_
  rintro e' W1 ⟨rfl, hb1⟩
  have h2 := heap_kept (heap3n w _ _ _) hb1
  have HB : Hid (Below w.heap.size w W1) := below_next (below3 _ _ _ _) hb1
  clear hb1 hc
  go_wp2_with (first | refine wpList_store25 rfl _ _ rfl _ _ rfl rfl _ h2 ?_)
  refine retCT rfl (w.heap.size + 2) _ rfl (load30L _ _ _ (setRow_heap _ _ _ _ _ _ h2)) rfl ⟨rfl, below_setRow HB.out (by omega) _⟩
set_option maxRecDepth 20000 in
set_option maxHeartbeats 400000 in
theorem enc_bad (b l i a c d e f g : Int) (ts : List Int) (p : Option Addr) (cap : Nat) (w : World) (hb : I64 b) (hs : standsB b l i a c d e f g = true) (hl : 32 ≤ l ∧ l ≤ 256) (hlen : ts.length < 9223372036854775807) (hts : IntsAt w p ts) (hwf : WfI ts)
    (hm : mayB c b (l - 1) ts = false) :
    Calls Tryz.prog 60 #[.agg (lay9 b l i a c d e f g), .agg #[.slice p ts.length cap]] w fun e' w' => e' = .returned (.tuple #[.agg (blk nought), .int .i64 4]) ∧ Below w.heap.size w w' := by
  have hc := fun w => hstands_any b l i a c d e f g w hb
  rw [hs] at hc
  have hM := fun W (h : IntsAt W p ts) => may_any b l i a c d e f g ts p cap W hl hlen h hwf
  rw [hm] at hM
  clear hs hm
  have z25 := zero25
  have hsz : (lay9 b l i a c d e f g).size = 9 := rfl
  have HT : Hid (IntsAt w p ts) := hts
  clear hts hwf
  generalize lay9 b l i a c d e f g = L at *
  have HM : Hid (∀ W, IntsAt W p ts → Calls Tryz.prog 94 #[.agg L, .slice p ts.length cap] W fun e' w' => e' = .returned (.bool false) ∧ Below W.heap.size W w') := hM
  clear hM
  generalize ts.length = n at *
  go_enter Tryz.func60, Tryz.ntmps60
  go_wp2_with (first | refine wpList_loadL rfl _ rfl _ rfl _ hsz (heap3o _ _ _ _) ?_ | (go_at_call 93; fail))
  refine (hc _).mono ?_
  rintro e' W1 ⟨rfl, hb1⟩
  have h0 := heap_kept (heap3o w _ _ _) hb1
  have h1 := cell_one (heap_kept (heap3 w _ _ _) hb1)
  have h2 := heap_kept (heap3n w _ _ _) hb1
  have HB : Hid (Below w.heap.size w W1) := below_next (below3 _ _ _ _) hb1
  clear hb1 hc
  go_wp2_with (first | refine wpList_loadL rfl _ rfl _ rfl _ hsz h0 ?_ | (go_at_call 94; fail))
  refine (HM.out _ (HT.out.later HB.out)).mono ?_
  rintro e' W2 ⟨rfl, hb2⟩
  have h3 := heap_kept h2 hb2
  have HB2 : Hid (Below w.heap.size w W2) := below_next HB.out hb2
  clear hb2 HM h0 h1 h2 HB
  go_wp2_with (first | refine wpList_store25 rfl _ _ rfl _ _ rfl rfl _ h3 ?_)
  refine retCT rfl (w.heap.size + 2) _ rfl (load30L _ _ _ (setRow_heap _ _ _ _ _ _ h3)) rfl ⟨rfl, below_setRow HB2.out (by omega) _⟩
end Go.Proofs.YtlcdpmjdnihocaaGreatH.H
/- Encode of head where the header may be; no condition. -/
namespace Go.Proofs.YtlcdpmjdnihocaaGreatH.H
open Go.RowKit
theorem MayP.u {lo hi m : Int} {ts : List Int} (h : MayP lo hi m ts) (h0 : 0 ≤ lo) (h1 : hi ≤ 4294967296) : AllU ts := fun x hx => by
  have := h.2.1 x hx
  exact ⟨by omega, by omega⟩
set_option maxRecDepth 20000 in
set_option maxHeartbeats 2000000 in
theorem enc_ok (b l i a c d e f g : Int) (ts : List Int) (p : Option Addr) (cap : Nat) (w : World) (hb : I64 b) (hs : standsB b l i a c d e f g = true) (hl : 32 ≤ l ∧ l ≤ 256) (hts : IntsAt w p ts) (hu : AllU ts) (hn : ts.length ≤ 255)
    (hm : mayB c b (l - 1) ts = true) :
    Calls Tryz.prog 60 #[.agg (lay9 b l i a c d e f g), .agg #[.slice p ts.length cap]] w fun e' w' => e' = .returned (.tuple #[.agg (blk (headF ts)), .int .i64 0]) ∧ Below w.heap.size w w' := by
  have hc := fun w => hstands_any b l i a c d e f g w hb
  rw [hs] at hc
  have hM := fun W (h : IntsAt W p ts) => may_any b l i a c d e f g ts p cap W hl (by omega) h (allU_wf hu)
  rw [hm] at hM
  clear hs hm
  have z25 := zero25
  have hsz : (lay9 b l i a c d e f g).size = 9 := rfl
  obtain ⟨n, hnn⟩ : ∃ n, ts.length = n := ⟨_, rfl⟩
  have HT : Hid (IntsAt w p ts ∧ AllU ts ∧ ts.length = n) := ⟨hts, hu, hnn⟩
  unfold headF
  rw [hnn] at hn hM ⊢
  clear hts hu hnn
  generalize lay9 b l i a c d e f g = L at *
  have HM : Hid (∀ W, IntsAt W p ts → Calls Tryz.prog 94 #[.agg L, .slice p n cap] W fun e' w' => e' = .returned (.bool true) ∧ Below W.heap.size W w') := hM
  clear hM
  have HS0 : Hid (put nought 0 4 (n : Int) = wordF [(n : Int)]) := by
    have := wordF_snoc [] (n : Int) ⟨by omega, by omega⟩ (by simp)
    rw [wordF_nil] at this
    exact this
  go_enter Tryz.func60, Tryz.ntmps60
  go_wp2_with (first | refine wpList_loadL rfl _ rfl _ rfl _ hsz (heap3o _ _ _ _) ?_ | (go_at_call 93; fail))
  refine (hc _).mono ?_
  rintro e' W1 ⟨rfl, hb1⟩
  have h0 := heap_kept (heap3o w _ _ _) hb1
  have h1 := heap_kept (heap3 w _ _ _) hb1
  have h2 := heap_kept (heap3n w _ _ _) hb1
  have HB : Hid (Below w.heap.size w W1) := below_next (below3 _ _ _ _) hb1
  clear hb1 hc
  have h1c := cell_one h1
  go_wp2_with (first | refine wpList_loadL rfl _ rfl _ rfl _ hsz h0 ?_ | (go_at_call 94; fail))
  refine (HM.out _ (HT.out.1.later HB.out)).mono ?_
  rintro e' W2 ⟨rfl, hb2⟩
  have h3 := heap_kept h2 hb2
  have h4 := heap_kept h1 hb2
  have HB2 : Hid (Below w.heap.size w W2) := below_next HB.out hb2
  clear hb2 HM h0 h1 h2 HB h1c
  have h4c := cell_one h4
  have hwr : IntKind.u32.wrap (n : Int) = n := by rw [wrap_u32]; omega
  go_wp2_with (first | (go_at_call 95; fail))
  refine (set32_any nought 0 (n : Int) _ (by omega)).mono ?_
  rintro e' W3 ⟨rfl, hb3⟩
  rw [HS0.out]
  have h5 := heap_kept h3 hb3
  have h6 := heap_kept h4 hb3
  have HB3 : Hid (Below w.heap.size w W3) := below_next HB2.out hb3
  have hlt : w.heap.size + 2 < W3.heap.size := (Array.getElem?_eq_some_iff.1 h5).1
  clear hb3 h3 h4 HB2 h4c
  have h6c := cell_one h6
  have h6d := cell_one (heap_kept h6 (below_new W3 (.cells (blk (wordF [(n : Int)])) 79)))
  go_wp2_with (first | refine wpList_store25_new rfl _ _ rfl _ _ rfl rfl ?_)
  go_loopw [28] (fun s28 wx => ∃ k : Nat, k ≤ n ∧ s28 = .int .i64 k ∧ wx.heap[W3.heap.size]? = some (.cells (blk (wordF ((n : Int) :: ts.take k))) 79) ∧ Below W3.heap.size W3 wx) (fun s28 _ => n - (intOf s28).toNat)
  case atStart => exact ⟨0, by omega, rfl, heap_alloc_new _ _, below_new _ _⟩
  case round =>
    obtain ⟨k, hk, rfl, hg, hbel⟩ := hrel
    have HW : Hid _ := hbel
    clear hbel
    by_cases hk2 : (k : Int) < n
    · obtain ⟨hts, hu, hnn⟩ := HT.out
      have hx : ts[k]? = some ts[k] := List.getElem?_eq_getElem (by omega)
      have htk : ts.take (k + 1) = ts.take k ++ [ts[k]] := by rw [List.take_add_one, hx]; rfl
      have hxu := hu _ (List.getElem_mem (by omega : k < ts.length))
      obtain ⟨b1, o1, rfl, l1, C1⟩ := hts (by omega)
      generalize ts[k] = x at hx htk hxu
      have q1 : wr.cell? ⟨b1, o1 + k, none⟩ = some (.int .i64 x) := (HW.out.cell (p := ⟨b1, o1 + k, none⟩) (by show b1 < W3.heap.size; omega)).trans ((HB3.out.cell (p := ⟨b1, o1 + k, none⟩) l1).trans (C1 k x hx))
      have hst := fun (w : World) => set32_any (wordF ((n : Int) :: ts.take k)) (4 * ((k : Int) + 1)) x w hxu
      have hpl := fun (w : World) => place_any k w (by omega)
      have hsn := wordF_snoc ((n : Int) :: ts.take k) x hxu (by simp; omega)
      rw [show (((n : Int) :: ts.take k).length : Nat) = k + 1 by simp; omega, List.cons_append, ← htk] at hsn
      rw [show 4 * ((k : Int) + 1) = ((4 * (k + 1) : Nat) : Int) by omega, hsn, show ((4 * (k + 1) : Nat) : Int) = 4 * ((k : Int) + 1) by omega] at hst
      have HST : Hid _ := hst
      have HPL : Hid _ := hpl
      have hwx : IntKind.u32.wrap x = x := by rw [wrap_u32]; omega
      generalize wordF ((n : Int) :: ts.take k) = F at *
      generalize hF' : wordF ((n : Int) :: ts.take (k + 1)) = F' at *
      have HF' : Hid _ := hF'
      clear hst hpl hsn hx htk hu hts hnn C1 hF'
      go_wp2
      refine wp_region_fork (S := fun _ => True) [1, 3, 4] 0 2 [(5, false), (6, false)] (by kernel_rfl) rfl (by kernel_rfl) (fun d _ _ _ _ h => by cases d <;> exact h) trivial ?_
      refine wpFork_yield (v := .int .i64 (k : Int)) rfl rfl (fun u _ => by simp [execOp, Act.eval]) ?_
      simp only [Act.put, List.setIfInBounds_toArray, List.set_cons_succ, List.set_cons_zero]
      refine wpFork_yield (v := .int .i64 x) rfl rfl (fun u _ => by simp [execOp, Act.eval]) ?_
      simp only [Act.put, List.setIfInBounds_toArray, List.set_cons_succ, List.set_cons_zero]
      refine wpFork_yield (v := .int .u32 x) rfl rfl (fun u _ => by go_simp) ?_
      simp only [Act.put, List.setIfInBounds_toArray, List.set_cons_succ, List.set_cons_zero]
      have hg0 : wr.drew.heap[W3.heap.size]? = some (.cells (blk F) 79) := hg
      have HBd : Hid (Below W3.heap.size W3 wr.drew) := HW.out.drew
      clear hg HW q1
      generalize wr.drew = wd at *
      refine wpFork_nil rfl rfl ?_ ?_
      · simp only [inOrd, List.getElem?_cons_zero, List.getElem?_cons_succ]
        refine wpOrd_loadF rfl _ rfl _ rfl _ hg0 ⟨trivial, ?_⟩
        simp only [Act.put, List.setIfInBounds_toArray, List.set_cons_succ, List.set_cons_zero]
        refine wpOrd_call rfl 96 _ _ rfl Tryz.call96 [.int .i64 (k : Int)] rfl ?_
        refine (HPL.out _).mono ?_
        rintro e' X ⟨rfl, rfl⟩
        refine ⟨_, rfl, trivial, ?_⟩
        simp only [Act.put, List.setIfInBounds_toArray, List.set_cons_succ, List.set_cons_zero]
        refine wpOrd_call rfl 95 _ _ rfl Tryz.call95 [.agg (blk F), .int .i64 (4 * ((k : Int) + 1)), .int .u32 x] rfl ?_
        refine (HST.out _).mono ?_
        rintro e' X ⟨rfl, hbx⟩
        refine ⟨_, rfl, trivial, ?_⟩
        simp only [Act.put, List.setIfInBounds_toArray, List.set_cons_succ, List.set_cons_zero]
        have hg1 := heap_kept hg0 hbx
        have HB1 : Hid (Below W3.heap.size W3 X) := below_next HBd.out hbx
        refine wpOrd_storeB rfl _ _ rfl W3.heap.size F' _ rfl rfl hg1 ⟨trivial, ?_⟩
        refine wpOrd_nil ?_
        have hg2 := setRow_heap X W3.heap.size (blk F) (blk F') 79 (0, 0) hg1
        have HB2' : Hid (Below W3.heap.size W3 (X.setRow W3.heap.size (blk F'))) := below_setRow HB1.out (Nat.le_refl _) _
        simp only [Act.put]
        generalize X.setRow W3.heap.size (blk F') = Y at hg2 HB2' ⊢
        clear hg1 hg0 HB1 HBd hbx HST HPL
        go_wp2
        exact ⟨⟨k + 1, by omega, by go_num, by rw [HF'.out]; exact hg2, HB2'.out⟩, by simp [intOf]; omega⟩
      · simp only [inOrd, List.getElem?_cons_zero, List.getElem?_cons_succ]
        refine wpOrd_call rfl 96 _ _ rfl Tryz.call96 [.int .i64 (k : Int)] rfl ?_
        refine (HPL.out _).mono ?_
        rintro e' X ⟨rfl, rfl⟩
        refine ⟨_, rfl, trivial, ?_⟩
        simp only [Act.put, List.setIfInBounds_toArray, List.set_cons_succ, List.set_cons_zero]
        refine wpOrd_loadF rfl _ rfl _ rfl _ hg0 ⟨trivial, ?_⟩
        simp only [Act.put, List.setIfInBounds_toArray, List.set_cons_succ, List.set_cons_zero]
        refine wpOrd_call rfl 95 _ _ rfl Tryz.call95 [.agg (blk F), .int .i64 (4 * ((k : Int) + 1)), .int .u32 x] rfl ?_
        refine (HST.out _).mono ?_
        rintro e' X ⟨rfl, hbx⟩
        refine ⟨_, rfl, trivial, ?_⟩
        simp only [Act.put, List.setIfInBounds_toArray, List.set_cons_succ, List.set_cons_zero]
        have hg1 := heap_kept hg0 hbx
        have HB1 : Hid (Below W3.heap.size W3 X) := below_next HBd.out hbx
        refine wpOrd_storeB rfl _ _ rfl W3.heap.size F' _ rfl rfl hg1 ⟨trivial, ?_⟩
        refine wpOrd_nil ?_
        have hg2 := setRow_heap X W3.heap.size (blk F) (blk F') 79 (0, 0) hg1
        have HB2' : Hid (Below W3.heap.size W3 (X.setRow W3.heap.size (blk F'))) := below_setRow HB1.out (Nat.le_refl _) _
        simp only [Act.put]
        generalize X.setRow W3.heap.size (blk F') = Y at hg2 HB2' ⊢
        clear hg1 hg0 HB1 HBd hbx HST HPL
        go_wp2
        exact ⟨⟨k + 1, by omega, by go_num, by rw [HF'.out]; exact hg2, HB2'.out⟩, by simp [intOf]; omega⟩
    · obtain rfl : k = n := by omega
      rw [List.take_of_length_le (by have := HT.out.2.2; omega)] at hg
      have h5' := (HW.out.block _ hlt).trans h5
      generalize hF : wordF ((k : Int) :: ts) = F at *
      have HF : Hid _ := hF
      clear hk HT hF
      go_wp2_with (first | refine wpList_load25 rfl _ rfl _ rfl _ hg ?_ | refine wpList_store25 rfl _ _ rfl _ _ rfl rfl _ h5' ?_)
      exact retCT rfl (w.heap.size + 2) _ rfl (load30L _ _ _ (setRow_heap _ _ _ _ _ _ h5')) rfl ⟨by rw [HF.out]; rfl, below_setRow (below_next HB3.out HW.out) (by omega) _⟩
end Go.Proofs.YtlcdpmjdnihocaaGreatH.H
/- Writes and barriers made one behind the other until one is refused; what mkfs makes of a disk; no condition. -/
namespace Go.Proofs.YtlcdpmjdnihocaaGreatD
open Go.RowKit
/-- A write, or a barrier. -/
abbrev MOp := Option Cel
def doV (s : St) : MOp → St
  | some c => writeV s c.1 c.2
  | none => barV s
def doE (s : St) : MOp → Int
  | some c => writeE s c.1
  | none => barE s
/-- One behind the other, until one is refused. -/
def runL (s : St) : List MOp → St × Int
  | [] => (s, 0)
  | o :: t => if doE s o = 0 then runL (doV s o) t else (doV s o, doE s o)
theorem runL_cons (s : St) (o : MOp) (t : List MOp) : runL s (o :: t) = if doE s o = 0 then runL (doV s o) t else (doV s o, doE s o) := rfl
theorem runL_append (a b : List MOp) : ∀ s : St, runL s (a ++ b) = if (runL s a).2 = 0 then runL (runL s a).1 b else runL s a := by
  induction a with
  | nil => intro s; rfl
  | cons o t ih =>
    intro s
    rw [List.cons_append, runL_cons, runL_cons]
    by_cases h : doE s o = 0
    · rw [if_pos h, if_pos h]; exact ih _
    · rw [if_neg h, if_neg h, if_neg h]
/-- There is room for k more. -/
structure Wide (s : St) (k : Nat) : Prop where
  ops : s.ops.length + k < 68719476736
  made : s.made + k < 1099511627776
  reads : s.reads < 1099511627776
  claims : s.claims < 1099511627776
theorem Wide.room {s : St} {k : Nat} (h : Wide s k) : Room s := ⟨by have := h.ops; omega, by have := h.made; omega, h.reads, h.claims⟩
theorem Wide.less {s : St} {k m : Nat} (h : Wide s k) (hm : m ≤ k) : Wide s m := ⟨by have := h.ops; omega, by have := h.made; omega, h.reads, h.claims⟩
theorem letV_most (s : St) : (letV s).made ≤ s.made + 1 ∧ (letV s).reads = s.reads ∧ (letV s).claims = s.claims ∧ (letV s).claimed = s.claimed := by
  unfold letV
  split
  · exact ⟨by show s.made ≤ s.made + 1; omega, rfl, rfl, rfl⟩
  · exact ⟨Int.le_refl _, rfl, rfl, rfl⟩
theorem barS_rest (s : St) : (barS s).n = s.n ∧ (barS s).made = (letV s).made ∧ (barS s).reads = (letV s).reads ∧ (barS s).claims = (letV s).claims ∧ (barS s).fuse = (letV s).fuse ∧ (barS s).stopped = (letV s).stopped ∧ (barS s).claimed = (letV s).claimed ∧ (barS s).wait = [] ∧ (barS s).held = (holdAll s s.wait).held := by
  obtain ⟨hh, he⟩ := holdAll_same s.wait (letV s)
  have e1 : barS s = { letV s with held := hh, done := s.ops ++ [⟨2, 0, nought⟩], wait := [] } := by unfold barS; rw [he]
  refine ⟨by rw [e1]; exact letV_n s, by rw [e1], by rw [e1], by rw [e1], by rw [e1], by rw [e1], by rw [e1], rfl, ?_⟩
  show (holdAll (letV s) s.wait).held = _
  have key : ∀ (l : List Cel) (a b : St), a.held = b.held → (holdAll a l).held = (holdAll b l).held := fun l => by
    induction l with
    | nil => exact fun a b q => q
    | cons c t ih =>
      intro a b q
      exact ih (holdV a c.1 c.2) (holdV b c.1 c.2) (by unfold holdV; rw [q])
  exact key _ _ _ (letV_held s)
theorem Wide.doV {s : St} {k : Nat} (h : Wide s (k + 1)) (o : MOp) : Wide (doV s o) k := by
  have h1 := h.ops
  have h2 := h.made
  obtain ⟨l1, l2, l3, _⟩ := letV_most s
  cases o with
  | none =>
    show Wide (barV s) k
    unfold barV
    split
    · exact h.less (by omega)
    · split
      · obtain ⟨b1, b2, b3, b4, _⟩ := barS_rest s
        exact ⟨by rw [barS_ops, List.length_append, List.length_singleton]; omega, by rw [b2]; omega, by rw [b3, l2]; exact h.reads, by rw [b4, l3]; exact h.claims⟩
      · exact ⟨by rw [letV_ops]; omega, by omega, by rw [l2]; exact h.reads, by rw [l3]; exact h.claims⟩
  | some c =>
    show Wide (writeV s c.1 c.2) k
    unfold writeV
    split
    · split
      · exact ⟨by rw [writeS_ops, List.length_append, List.length_singleton]; omega, by show (letV s).made + _ < _; omega, by show (letV s).reads < _; rw [l2]; exact h.reads, by show (letV s).claims < _; rw [l3]; exact h.claims⟩
      · exact ⟨by rw [letV_ops]; omega, by omega, by rw [l2]; exact h.reads, by rw [l3]; exact h.claims⟩
    · exact h.less (by omega)
theorem Wide.run : ∀ {l : List MOp} {s : St} {k : Nat}, Wide s (l.length + k) → Wide (runL s l).1 k
  | [], s, k, h => h.less (by simp)
  | o :: t, s, k, h => by
    have h2 : Wide (Go.Proofs.YtlcdpmjdnihocaaGreatD.doV s o) (t.length + k) := Wide.doV (by rw [List.length_cons] at h; exact h.less (by omega)) o
    rw [runL_cons]
    split
    · exact h2.run
    · exact h2.less (by omega)
section
variable {P : World → Loc → Prop} {W : World} {d : Nat} {s : St}
theorem has_len (h : Has P W d s) : Calls Tryz.prog 57 #[.pointer (some ⟨d, 0, none⟩)] W fun e W' => e = .returned (.int .i64 s.n) ∧ W' = W := by
  obtain ⟨L, rfl, hD, _⟩ := h
  exact len_of hD
theorem has_claim (hP : Stays P) (h : Has P W d s) (hr : Room s) : Calls Tryz.prog 9 #[.pointer (some ⟨d, 0, none⟩)] W fun e W' => e = .returned (.int .i64 (claimN s)) ∧ Has P W' d (claimV s) := by
  obtain ⟨L, rfl, hD, hp⟩ := h
  exact (claim_of hD hr).mono fun e W' ⟨h1, h2, h3⟩ => ⟨h1, Has.goes hP rfl hD hp h2 h3⟩
end
/-- The blocks from the inodes' region to the first data block: their number. -/
def mkN (b l i : Int) : Nat := (YtlcdpmjdnihocaaGreatP.dataAt b l i - l).toNat
/-- The second part, from the j-th block of the inodes' region on. -/
def mkR (b l i : Int) (j : Nat) : List MOp := ((List.range (mkN b l i)).drop j).map fun (q : Nat) => some (1 + l + (q : Int), YtlcdpmjdnihocaaGreat.coF b l i (1 + l + (q : Int)))
def mkA : List MOp := [some (0, nought)]
def mkB (b l i : Int) : List MOp := some (1, nought) :: mkR b l i 0
def mkC (b l i : Int) : List MOp := [some (0, YtlcdpmjdnihocaaGreatP.superF b l i)]
/-- What mkfs does from the m-th part on. -/
def mkL (b l i : Int) : Nat → List MOp
  | 0 => mkA ++ (none :: (mkB b l i ++ (none :: (mkC b l i ++ [none]))))
  | 1 => mkB b l i ++ (none :: (mkC b l i ++ [none]))
  | 2 => mkC b l i ++ [none]
  | _ => []
theorem mkR_step (b l i : Int) (j : Nat) (h : j < mkN b l i) : mkR b l i j = some (1 + l + (j : Int), YtlcdpmjdnihocaaGreat.coF b l i (1 + l + (j : Int))) :: mkR b l i (j + 1) := by
  unfold mkR
  rw [List.drop_eq_getElem_cons (by simpa using h), List.map_cons, List.getElem_range]
theorem mkR_end (b l i : Int) : mkR b l i (mkN b l i) = [] := by
  unfold mkR
  rw [List.drop_eq_nil_of_le (by simp)]
  rfl
theorem mkR_len (b l i : Int) (j : Nat) : (mkR b l i j).length = mkN b l i - j := by unfold mkR; simp
theorem mkL_len (b l i : Int) : (mkL b l i 0).length = mkN b l i + 6 := by
  unfold mkL mkA mkB mkC
  simp [mkR_len]
/-- What mkfs answers ahead of all, and then. -/
def rdyE (b l i : Int) (s : St) : Int := if YtlcdpmjdnihocaaGreatP.ofE b l i ≠ 0 ∨ b > s.n then 2 else if s.stopped then 3 else 0
def mkE (b l i : Int) (s : St) : Int := if rdyE b l i s = 0 then (runL (claimV s) (mkL b l i 0)).2 else rdyE b l i s
def mkV (b l i : Int) (s : St) : St := if rdyE b l i s = 0 then (runL (claimV s) (mkL b l i 0)).1 else s
end Go.Proofs.YtlcdpmjdnihocaaGreatD
/- Mkfs by the program: whether a file system may be made on a disk; for every disk and geometry. -/
namespace Go.Proofs.YtlcdpmjdnihocaaGreatD
open Go.RowKit
variable {P : World → Loc → Prop} {W : World} {d : Nat} {s : St}
theorem layIn (b l i : Int) : (Tryz.prog.info? 52).map (·.size) = some (YtlcdpmjdnihocaaGreatP.lay9 b l i 1 (1 + l) (YtlcdpmjdnihocaaGreatP.nodeB i) (YtlcdpmjdnihocaaGreatP.bitsAt l i) (YtlcdpmjdnihocaaGreatP.bitsB b) (YtlcdpmjdnihocaaGreatP.dataAt b l i)).size := by kernel_rfl
theorem lay9_size (b l i a c d e f g : Int) : (Tryz.prog.info? 52).map (·.size) = some (YtlcdpmjdnihocaaGreatP.lay9 b l i a c d e f g).size := by kernel_rfl
theorem lay9_one (b l i a c d e f g : Int) : (YtlcdpmjdnihocaaGreatP.lay9 b l i a c d e f g).all (·.oneCell') = true := by simp [YtlcdpmjdnihocaaGreatP.lay9, Value.oneCell']
theorem lay9_two (b l i a c d e f g b' l' i' a' c' d' e' f' g' : Int) : (YtlcdpmjdnihocaaGreatP.lay9 b l i a c d e f g).size = (YtlcdpmjdnihocaaGreatP.lay9 b' l' i' a' c' d' e' f' g').size := rfl
theorem zeroLy : ∀ w, (zeroValue 52).run Tryz.prog w = .ok (.agg (YtlcdpmjdnihocaaGreatP.lay9 0 0 0 0 0 0 0 0 0)) w := (zero_of_info (show (Tryz.prog.info? 52).map (fun i => (i.zero, i.size)) = some (some (.agg (YtlcdpmjdnihocaaGreatP.lay9 0 0 0 0 0 0 0 0 0)), 9) by kernel_rfl)).1
theorem buildLy (u : World) : (Instr.build 52 #[]).run Tryz.prog u = .ok (.agg (YtlcdpmjdnihocaaGreatP.lay9 0 0 0 0 0 0 0 0 0)) u := by
  have z := zeroLy u
  generalize YtlcdpmjdnihocaaGreatP.lay9 0 0 0 0 0 0 0 0 0 = L at *
  simp [go_sem, z]
/-- What is beside the disk while ready goes: its own two rows. -/
structure RyS (P : World → Loc → Prop) (W0 W : World) (d : Nat) (s : St) (b l i : Int) (Z : Array Value) : Prop where
  has : Has P W d s
  geo : W.heap[W0.heap.size]? = some (.cells #[.int .i64 b, .int .i64 l, .int .i64 i] 26)
  res : W.heap[W0.heap.size + 1]? = some (.cells Z 52)
  bel : Below W0.heap.size W0 W
theorem RyS.later (hP : Stays P) {W0 W' : World} {b l i : Int} {Z : Array Value} (h : RyS P W0 W d s b l i Z) (hb : Below W.heap.size W W') : RyS P W0 W' d s b l i Z := ⟨h.has.later hP hb, heap_kept h.geo hb, heap_kept h.res hb, below_next h.bel hb⟩
theorem RyS.set (hP : Stays P) {W0 : World} {b l i : Int} {Z : Array Value} (hH : Has P W0 d s) (h : RyS P W0 W d s b l i Z) (cs : Array Value) : Has P (W.setRow (W0.heap.size + 1) cs) d s := hH.later hP (below_setRow h.bel (by omega) _)
set_option maxRecDepth 20000 in
set_option maxHeartbeats 4000000 in
theorem ready_ok (hP : Stays P) (h : Has P W d s) (b l i : Int) (hb : YtlcdpmjdnihocaaGreatP.I64 b) :
    Calls Tryz.prog 38 #[.pointer (some ⟨d, 0, none⟩), YtlcdpmjdnihocaaGreatP.geoV b l i] W fun e W' => e = .returned (.tuple #[if rdyE b l i s = 0 then YtlcdpmjdnihocaaGreatP.layV b l i else YtlcdpmjdnihocaaGreatP.layZ, .int .i64 (rdyE b l i s)]) ∧ Has P W' d s := by
  have hOf := fun u => YtlcdpmjdnihocaaGreatP.of_any b l i u hb
  have hn1 := h.ok.n
  have zl := zeroLy
  have zb := buildLy
  have HH : Hid (Has P W d s) := h
  have HLn : Hid (∀ V, Has P V d s → Calls Tryz.prog 57 #[.pointer (some ⟨d, 0, none⟩)] V fun e W' => e = .returned (.int .i64 s.n) ∧ W' = V) := fun V hV => has_len hV
  have HSt : Hid (∀ V, Has P V d s → Calls Tryz.prog 23 #[.pointer (some ⟨d, 0, none⟩)] V fun e W' => e = .returned (.bool s.stopped) ∧ W' = V) := fun V hV => has_stopped hV
  have HRd : Hid (rdyE b l i s = if YtlcdpmjdnihocaaGreatP.ofE b l i ≠ 0 ∨ b > s.n then 2 else if s.stopped then 3 else 0) := rfl
  have HOE : Hid (YtlcdpmjdnihocaaGreatP.ofE b l i = if YtlcdpmjdnihocaaGreatP.Fine b l i then 0 else 2) := rfl
  have HOV : Hid (YtlcdpmjdnihocaaGreatP.ofV b l i = if YtlcdpmjdnihocaaGreatP.Fine b l i then YtlcdpmjdnihocaaGreatP.layV b l i else YtlcdpmjdnihocaaGreatP.layZ) := rfl
  unfold YtlcdpmjdnihocaaGreatP.geoV at *
  unfold YtlcdpmjdnihocaaGreatP.layZ YtlcdpmjdnihocaaGreatP.layV at *
  have HLI : Hid _ := layIn b l i
  have HL0 : Hid _ := lay9_size 0 0 0 0 0 0 0 0 0
  have HL1 : Hid _ := lay9_one 0 0 0 0 0 0 0 0 0
  have HL3 : Hid _ := lay9_one b l i 1 (1 + l) (YtlcdpmjdnihocaaGreatP.nodeB i) (YtlcdpmjdnihocaaGreatP.bitsAt l i) (YtlcdpmjdnihocaaGreatP.bitsB b) (YtlcdpmjdnihocaaGreatP.dataAt b l i)
  have HL2 : Hid ((YtlcdpmjdnihocaaGreatP.lay9 0 0 0 0 0 0 0 0 0).size = (YtlcdpmjdnihocaaGreatP.lay9 b l i 1 (1 + l) (YtlcdpmjdnihocaaGreatP.nodeB i) (YtlcdpmjdnihocaaGreatP.bitsAt l i) (YtlcdpmjdnihocaaGreatP.bitsB b) (YtlcdpmjdnihocaaGreatP.dataAt b l i)).size) := rfl
  have hS0 : RyS P W ((W.alloc (.cells #[.int .i64 b, .int .i64 l, .int .i64 i] 26)).alloc (.cells (YtlcdpmjdnihocaaGreatP.lay9 0 0 0 0 0 0 0 0 0) 52)) d s b l i (YtlcdpmjdnihocaaGreatP.lay9 0 0 0 0 0 0 0 0 0) := by
    have hbb : Below W.heap.size W ((W.alloc (.cells #[.int .i64 b, .int .i64 l, .int .i64 i] 26)).alloc (.cells (YtlcdpmjdnihocaaGreatP.lay9 0 0 0 0 0 0 0 0 0) 52)) := below_next (below_new _ _) (below_new _ _)
    exact ⟨h.later hP hbb, heap_kept (heap_alloc_new _ _) (below_new _ _), YtlcdpmjdnihocaaGreat.heap_two _ _ _, hbb⟩
  generalize YtlcdpmjdnihocaaGreatP.lay9 b l i 1 (1 + l) (YtlcdpmjdnihocaaGreatP.nodeB i) (YtlcdpmjdnihocaaGreatP.bitsAt l i) (YtlcdpmjdnihocaaGreatP.bitsB b) (YtlcdpmjdnihocaaGreatP.dataAt b l i) = Y at *
  generalize YtlcdpmjdnihocaaGreatP.lay9 0 0 0 0 0 0 0 0 0 = Z at *
  generalize YtlcdpmjdnihocaaGreatP.ofV b l i = ov at *
  generalize YtlcdpmjdnihocaaGreatP.ofE b l i = oe at *
  obtain ⟨A, hA⟩ : ∃ A, A = (W.alloc (.cells #[.int .i64 b, .int .i64 l, .int .i64 i] 26)).alloc (.cells Z 52) := ⟨_, rfl⟩
  rw [← hA] at hS0
  have HA : Hid (A = _) := hA
  have HS0 : Hid _ := hS0
  have HGi : Hid ((Tryz.prog.info? 26).map (·.size) = some (#[Value.int .i64 b, .int .i64 l, .int .i64 i] : Array Value).size) := by show _ = _; kernel_rfl
  clear hA hS0 h
  generalize hsn : s.n = n at *
  have hn0 : (n == 0) = false := by simp; omega
  by_cases hF : YtlcdpmjdnihocaaGreatP.Fine b l i
  · have hoe : oe = 0 := by rw [HOE.out, if_pos hF]
    have hov : ov = .agg Y := by rw [HOV.out, if_pos hF]
    subst hoe hov
    clear HOE HOV hF
    by_cases hbn : b > n
    · have HE : Hid (rdyE b l i s = 2) := by show _ = _; rw [HRd.out, if_pos (.inr hbn)]
      clear HRd
      rw [HE.out]
      have hgt : decide (n < b) = true := decide_eq_true hbn
      have HVi : Hid _ := HLI.out
      have HVs : Hid _ := HL2.out
      have HVo : Hid _ := HL3.out
      go_enter Tryz.func38, Tryz.ntmps38
      go_upto_region 1 with fail
      rw [← HA.out]
      clear HA
      go_wp2_with (go_at_call 57; fail)
      refine (HLn.out _ HS0.out.has).mono ?_
      rintro e V ⟨rfl, he⟩
      obtain rfl := he.symm
      clear he
      have HS1 : Hid _ := HS0.out
      clear HS0
      go_wp2_with (first | (with_reducible refine YtlcdpmjdnihocaaGreat.isLoadR 26 ?_; refine YtlcdpmjdnihocaaGreat.wpList_ldR 26 Tryz.underlying26 rfl rfl _ rfl W.heap.size rfl #[.int .i64 b, .int .i64 l, .int .i64 i] 26 (0, 0) HGi.out HS1.out.geo ?_) | (go_at_call 58; fail))
      refine (hOf _).mono ?_
      rintro e V1 ⟨rfl, hb1⟩
      have HS2 : Hid _ := HS1.out.later hP (below_next hb1 (below_new V1 (.cells Y 52)))
      have HV2 : Hid ((V1.alloc (.cells Y 52)).heap[V1.heap.size]? = some (.cells Y 52)) := heap_alloc_new _ _
      clear HS1 hb1 hOf
      go_upto_region 4 with (first | (with_reducible refine YtlcdpmjdnihocaaGreat.isStoreR 52 ?_; refine YtlcdpmjdnihocaaGreat.wpList_stNew 52 rfl _ _ rfl V1.heap.size Y Z 52 HVi.out HVs.out HVo.out rfl rfl rfl ?_))
      generalize V1.alloc (.cells Y 52) = V2 at *
      generalize V1.heap.size = gl at *
      have HS3 : Hid (RyS P W V2.drew d s b l i Z) := HS2.out.later hP (Below.refl _ _).drew
      have HV3 : Hid (V2.drew.heap[gl]? = some (.cells Y 52)) := HV2.out
      clear HS2 HV2
      refine wp_region_ord (S := fun u => u.cell? ⟨W.heap.size, 0, none⟩ = some (.int .i64 b)) [(0, true), (1, true), (2, true), (3, true), (4, true), (5, true), (6, false), (7, true), (8, true), (9, true)] (by kernel_rfl) rfl (by kernel_rfl) (fun d _ _ _ _ h => by cases d <;> exact h) (Joins.cell_of_block HS3.out.geo 0) ?_
      simp only [inOrd, List.getElem?_cons_zero, List.getElem?_cons_succ]
      generalize V2.drew = U at *
      refine wpOrd_yield (v := .int .i64 0) rfl (fun u _ => by go_simp) ?_
      simp only [Act.put, List.setIfInBounds_toArray, List.set_cons_succ, List.set_cons_zero]
      refine wpOrd_yield (v := .bool false) rfl (fun u _ => by go_simp) ?_
      simp only [Act.put, List.setIfInBounds_toArray, List.set_cons_succ, List.set_cons_zero]
      refine wpOrd_yield (v := .bool false) rfl (fun u _ => by go_simp) ?_
      simp only [Act.put, List.setIfInBounds_toArray, List.set_cons_succ, List.set_cons_zero]
      refine wpOrd_yield (v := .pointer (some ⟨W.heap.size, 0, none⟩)) rfl (fun u _ => by go_simp) ?_
      simp only [Act.put, List.setIfInBounds_toArray, List.set_cons_succ, List.set_cons_zero]
      refine wpOrd_yield (v := .int .i64 b) rfl (fun u hu => by go_simp) ?_
      simp only [Act.put, List.setIfInBounds_toArray, List.set_cons_succ, List.set_cons_zero]
      refine wpOrd_yield (v := .pointer (some ⟨d, 0, none⟩)) rfl (fun u _ => by go_simp) ?_
      simp only [Act.put, List.setIfInBounds_toArray, List.set_cons_succ, List.set_cons_zero]
      refine wpOrd_call rfl 57 _ _ rfl Tryz.call57 [.pointer (some ⟨d, 0, none⟩)] rfl ?_
      refine (HLn.out U HS3.out.has).mono ?_
      rintro e U2 ⟨rfl, he⟩
      obtain rfl := he.symm
      clear he
      refine ⟨_, rfl, Joins.cell_of_block HS3.out.geo 0, ?_⟩
      simp only [Act.put, List.setIfInBounds_toArray, List.set_cons_succ, List.set_cons_zero]
      refine wpOrd_yield (v := .bool true) rfl (fun u _ => by go_simp) ?_
      simp only [Act.put, List.setIfInBounds_toArray, List.set_cons_succ, List.set_cons_zero]
      refine wpOrd_yield (v := .bool true) rfl (fun u _ => by go_simp) ?_
      simp only [Act.put, List.setIfInBounds_toArray, List.set_cons_succ, List.set_cons_zero]
      refine wpOrd_yield (v := .bool true) rfl (fun u _ => by go_simp) ?_
      simp only [Act.put, List.setIfInBounds_toArray, List.set_cons_succ, List.set_cons_zero]
      refine wpOrd_nil ?_
      go_wp2_with (first | (with_reducible refine YtlcdpmjdnihocaaGreat.isStoreR 52 ?_; refine YtlcdpmjdnihocaaGreat.wpList_stR 52 rfl _ _ rfl (W.heap.size + 1) Z Z 52 HL0.out rfl HL1.out rfl rfl HS3.out.res ?_))
      exact YtlcdpmjdnihocaaGreat.retCT Tryz.underlying52 rfl rfl (W.heap.size + 1) Z 52 HL0.out rfl (setRow_heap _ _ _ _ _ _ HS3.out.res) rfl ⟨rfl, HS3.out.set hP HH.out _⟩
    · have hgt : decide (n < b) = false := decide_eq_false hbn
      cases hst : s.stopped
      · have HE : Hid (rdyE b l i s = 0) := by show _ = _; rw [HRd.out, if_neg (by rintro (q | q); exact q rfl; exact hbn q), hst]; rfl
        clear HRd
        rw [HE.out]
        rw [hst] at HSt
        have HVi : Hid _ := HLI.out
        have HVs : Hid _ := HL2.out
        have HVo : Hid _ := HL3.out
        go_enter Tryz.func38, Tryz.ntmps38
        go_upto_region 1 with fail
        rw [← HA.out]
        clear HA
        go_wp2_with (go_at_call 57; fail)
        refine (HLn.out _ HS0.out.has).mono ?_
        rintro e V ⟨rfl, he⟩
        obtain rfl := he.symm
        clear he
        have HS1 : Hid _ := HS0.out
        clear HS0
        go_wp2_with (first | (with_reducible refine YtlcdpmjdnihocaaGreat.isLoadR 26 ?_; refine YtlcdpmjdnihocaaGreat.wpList_ldR 26 Tryz.underlying26 rfl rfl _ rfl W.heap.size rfl #[.int .i64 b, .int .i64 l, .int .i64 i] 26 (0, 0) HGi.out HS1.out.geo ?_) | (go_at_call 58; fail))
        refine (hOf _).mono ?_
        rintro e V1 ⟨rfl, hb1⟩
        have HS2 : Hid _ := HS1.out.later hP (below_next hb1 (below_new V1 (.cells Y 52)))
        have HV2 : Hid ((V1.alloc (.cells Y 52)).heap[V1.heap.size]? = some (.cells Y 52)) := heap_alloc_new _ _
        clear HS1 hb1 hOf
        go_upto_region 4 with (first | (with_reducible refine YtlcdpmjdnihocaaGreat.isStoreR 52 ?_; refine YtlcdpmjdnihocaaGreat.wpList_stNew 52 rfl _ _ rfl V1.heap.size Y Z 52 HVi.out HVs.out HVo.out rfl rfl rfl ?_))
        generalize V1.alloc (.cells Y 52) = V2 at *
        generalize V1.heap.size = gl at *
        have HS3 : Hid (RyS P W V2.drew d s b l i Z) := HS2.out.later hP (Below.refl _ _).drew
        have HV3 : Hid (V2.drew.heap[gl]? = some (.cells Y 52)) := HV2.out
        clear HS2 HV2
        refine wp_region_ord (S := fun u => u.cell? ⟨W.heap.size, 0, none⟩ = some (.int .i64 b)) [(0, true), (1, true), (2, true), (3, true), (4, true), (5, true), (6, false), (7, true), (8, true), (9, true)] (by kernel_rfl) rfl (by kernel_rfl) (fun d _ _ _ _ h => by cases d <;> exact h) (Joins.cell_of_block HS3.out.geo 0) ?_
        simp only [inOrd, List.getElem?_cons_zero, List.getElem?_cons_succ]
        generalize V2.drew = U at *
        refine wpOrd_yield (v := .int .i64 0) rfl (fun u _ => by go_simp) ?_
        simp only [Act.put, List.setIfInBounds_toArray, List.set_cons_succ, List.set_cons_zero]
        refine wpOrd_yield (v := .bool false) rfl (fun u _ => by go_simp) ?_
        simp only [Act.put, List.setIfInBounds_toArray, List.set_cons_succ, List.set_cons_zero]
        refine wpOrd_yield (v := .bool false) rfl (fun u _ => by go_simp) ?_
        simp only [Act.put, List.setIfInBounds_toArray, List.set_cons_succ, List.set_cons_zero]
        refine wpOrd_yield (v := .pointer (some ⟨W.heap.size, 0, none⟩)) rfl (fun u _ => by go_simp) ?_
        simp only [Act.put, List.setIfInBounds_toArray, List.set_cons_succ, List.set_cons_zero]
        refine wpOrd_yield (v := .int .i64 b) rfl (fun u hu => by go_simp) ?_
        simp only [Act.put, List.setIfInBounds_toArray, List.set_cons_succ, List.set_cons_zero]
        refine wpOrd_yield (v := .pointer (some ⟨d, 0, none⟩)) rfl (fun u _ => by go_simp) ?_
        simp only [Act.put, List.setIfInBounds_toArray, List.set_cons_succ, List.set_cons_zero]
        refine wpOrd_call rfl 57 _ _ rfl Tryz.call57 [.pointer (some ⟨d, 0, none⟩)] rfl ?_
        refine (HLn.out U HS3.out.has).mono ?_
        rintro e U2 ⟨rfl, he⟩
        obtain rfl := he.symm
        clear he
        refine ⟨_, rfl, Joins.cell_of_block HS3.out.geo 0, ?_⟩
        simp only [Act.put, List.setIfInBounds_toArray, List.set_cons_succ, List.set_cons_zero]
        refine wpOrd_yield (v := .bool false) rfl (fun u _ => by go_simp) ?_
        simp only [Act.put, List.setIfInBounds_toArray, List.set_cons_succ, List.set_cons_zero]
        refine wpOrd_yield (v := .bool false) rfl (fun u _ => by go_simp) ?_
        simp only [Act.put, List.setIfInBounds_toArray, List.set_cons_succ, List.set_cons_zero]
        refine wpOrd_yield (v := .bool false) rfl (fun u _ => by go_simp) ?_
        simp only [Act.put, List.setIfInBounds_toArray, List.set_cons_succ, List.set_cons_zero]
        refine wpOrd_nil ?_
        go_upto_region 6 with fail
        go_wp2_with (go_at_call 23; fail)
        refine (HSt.out _ HS3.out.has).mono ?_
        rintro e V ⟨rfl, he⟩
        obtain rfl := he.symm
        clear he
        go_wp2_with (first | (with_reducible refine YtlcdpmjdnihocaaGreat.isLoadR 52 ?_; refine YtlcdpmjdnihocaaGreat.wpList_ldR 52 Tryz.underlying52 rfl rfl _ rfl gl rfl Y 52 (0, 0) HVi.out HV3.out ?_) | (with_reducible refine YtlcdpmjdnihocaaGreat.isStoreR 52 ?_; refine YtlcdpmjdnihocaaGreat.wpList_stR 52 rfl _ _ rfl (W.heap.size + 1) Y Z 52 HVi.out HVs.out HVo.out rfl rfl HS3.out.res ?_))
        exact YtlcdpmjdnihocaaGreat.retCT Tryz.underlying52 rfl rfl (W.heap.size + 1) Y 52 HVi.out rfl (setRow_heap _ _ _ _ _ _ HS3.out.res) rfl ⟨rfl, HS3.out.set hP HH.out _⟩
      · have HE : Hid (rdyE b l i s = 3) := by show _ = _; rw [HRd.out, if_neg (by rintro (q | q); exact q rfl; exact hbn q), hst]; rfl
        clear HRd
        rw [HE.out]
        rw [hst] at HSt
        have HVi : Hid _ := HLI.out
        have HVs : Hid _ := HL2.out
        have HVo : Hid _ := HL3.out
        go_enter Tryz.func38, Tryz.ntmps38
        go_upto_region 1 with fail
        rw [← HA.out]
        clear HA
        go_wp2_with (go_at_call 57; fail)
        refine (HLn.out _ HS0.out.has).mono ?_
        rintro e V ⟨rfl, he⟩
        obtain rfl := he.symm
        clear he
        have HS1 : Hid _ := HS0.out
        clear HS0
        go_wp2_with (first | (with_reducible refine YtlcdpmjdnihocaaGreat.isLoadR 26 ?_; refine YtlcdpmjdnihocaaGreat.wpList_ldR 26 Tryz.underlying26 rfl rfl _ rfl W.heap.size rfl #[.int .i64 b, .int .i64 l, .int .i64 i] 26 (0, 0) HGi.out HS1.out.geo ?_) | (go_at_call 58; fail))
        refine (hOf _).mono ?_
        rintro e V1 ⟨rfl, hb1⟩
        have HS2 : Hid _ := HS1.out.later hP (below_next hb1 (below_new V1 (.cells Y 52)))
        have HV2 : Hid ((V1.alloc (.cells Y 52)).heap[V1.heap.size]? = some (.cells Y 52)) := heap_alloc_new _ _
        clear HS1 hb1 hOf
        go_upto_region 4 with (first | (with_reducible refine YtlcdpmjdnihocaaGreat.isStoreR 52 ?_; refine YtlcdpmjdnihocaaGreat.wpList_stNew 52 rfl _ _ rfl V1.heap.size Y Z 52 HVi.out HVs.out HVo.out rfl rfl rfl ?_))
        generalize V1.alloc (.cells Y 52) = V2 at *
        generalize V1.heap.size = gl at *
        have HS3 : Hid (RyS P W V2.drew d s b l i Z) := HS2.out.later hP (Below.refl _ _).drew
        have HV3 : Hid (V2.drew.heap[gl]? = some (.cells Y 52)) := HV2.out
        clear HS2 HV2
        refine wp_region_ord (S := fun u => u.cell? ⟨W.heap.size, 0, none⟩ = some (.int .i64 b)) [(0, true), (1, true), (2, true), (3, true), (4, true), (5, true), (6, false), (7, true), (8, true), (9, true)] (by kernel_rfl) rfl (by kernel_rfl) (fun d _ _ _ _ h => by cases d <;> exact h) (Joins.cell_of_block HS3.out.geo 0) ?_
        simp only [inOrd, List.getElem?_cons_zero, List.getElem?_cons_succ]
        generalize V2.drew = U at *
        refine wpOrd_yield (v := .int .i64 0) rfl (fun u _ => by go_simp) ?_
        simp only [Act.put, List.setIfInBounds_toArray, List.set_cons_succ, List.set_cons_zero]
        refine wpOrd_yield (v := .bool false) rfl (fun u _ => by go_simp) ?_
        simp only [Act.put, List.setIfInBounds_toArray, List.set_cons_succ, List.set_cons_zero]
        refine wpOrd_yield (v := .bool false) rfl (fun u _ => by go_simp) ?_
        simp only [Act.put, List.setIfInBounds_toArray, List.set_cons_succ, List.set_cons_zero]
        refine wpOrd_yield (v := .pointer (some ⟨W.heap.size, 0, none⟩)) rfl (fun u _ => by go_simp) ?_
        simp only [Act.put, List.setIfInBounds_toArray, List.set_cons_succ, List.set_cons_zero]
        refine wpOrd_yield (v := .int .i64 b) rfl (fun u hu => by go_simp) ?_
        simp only [Act.put, List.setIfInBounds_toArray, List.set_cons_succ, List.set_cons_zero]
        refine wpOrd_yield (v := .pointer (some ⟨d, 0, none⟩)) rfl (fun u _ => by go_simp) ?_
        simp only [Act.put, List.setIfInBounds_toArray, List.set_cons_succ, List.set_cons_zero]
        refine wpOrd_call rfl 57 _ _ rfl Tryz.call57 [.pointer (some ⟨d, 0, none⟩)] rfl ?_
        refine (HLn.out U HS3.out.has).mono ?_
        rintro e U2 ⟨rfl, he⟩
        obtain rfl := he.symm
        clear he
        refine ⟨_, rfl, Joins.cell_of_block HS3.out.geo 0, ?_⟩
        simp only [Act.put, List.setIfInBounds_toArray, List.set_cons_succ, List.set_cons_zero]
        refine wpOrd_yield (v := .bool false) rfl (fun u _ => by go_simp) ?_
        simp only [Act.put, List.setIfInBounds_toArray, List.set_cons_succ, List.set_cons_zero]
        refine wpOrd_yield (v := .bool false) rfl (fun u _ => by go_simp) ?_
        simp only [Act.put, List.setIfInBounds_toArray, List.set_cons_succ, List.set_cons_zero]
        refine wpOrd_yield (v := .bool false) rfl (fun u _ => by go_simp) ?_
        simp only [Act.put, List.setIfInBounds_toArray, List.set_cons_succ, List.set_cons_zero]
        refine wpOrd_nil ?_
        go_upto_region 6 with fail
        go_wp2_with (go_at_call 23; fail)
        refine (HSt.out _ HS3.out.has).mono ?_
        rintro e V ⟨rfl, he⟩
        obtain rfl := he.symm
        clear he
        go_wp2_with (first | (with_reducible refine YtlcdpmjdnihocaaGreat.isStoreR 52 ?_; refine YtlcdpmjdnihocaaGreat.wpList_stR 52 rfl _ _ rfl (W.heap.size + 1) Z Z 52 HL0.out rfl HL1.out rfl rfl HS3.out.res ?_))
        exact YtlcdpmjdnihocaaGreat.retCT Tryz.underlying52 rfl rfl (W.heap.size + 1) Z 52 HL0.out rfl (setRow_heap _ _ _ _ _ _ HS3.out.res) rfl ⟨rfl, HS3.out.set hP HH.out _⟩
  · have hoe : oe = 2 := by rw [HOE.out, if_neg hF]
    have hov : ov = .agg Z := by rw [HOV.out, if_neg hF]
    have HE : Hid (rdyE b l i s = 2) := by show _ = _; rw [HRd.out, hoe, if_pos (.inl (by decide))]
    subst hoe hov
    clear HOE HOV HRd hF
    rw [HE.out]
    have HVi : Hid _ := HL0.out
    have HVo : Hid _ := HL1.out
    obtain ⟨VR, hVR⟩ : ∃ VR, VR = Z := ⟨_, rfl⟩
    rw [← hVR] at hOf HVi HVo
    have HVs : Hid (Z.size = VR.size) := by rw [hVR]; exact (rfl : Z.size = Z.size)
    clear hVR
    go_enter Tryz.func38, Tryz.ntmps38
    go_upto_region 1 with fail
    rw [← HA.out]
    clear HA
    go_wp2_with (go_at_call 57; fail)
    refine (HLn.out _ HS0.out.has).mono ?_
    rintro e V ⟨rfl, he⟩
    obtain rfl := he.symm
    clear he
    have HS1 : Hid _ := HS0.out
    clear HS0
    go_wp2_with (first | (with_reducible refine YtlcdpmjdnihocaaGreat.isLoadR 26 ?_; refine YtlcdpmjdnihocaaGreat.wpList_ldR 26 Tryz.underlying26 rfl rfl _ rfl W.heap.size rfl #[.int .i64 b, .int .i64 l, .int .i64 i] 26 (0, 0) HGi.out HS1.out.geo ?_) | (go_at_call 58; fail))
    refine (hOf _).mono ?_
    rintro e V1 ⟨rfl, hb1⟩
    have HS2 : Hid _ := HS1.out.later hP (below_next hb1 (below_new V1 (.cells VR 52)))
    have HV2 : Hid ((V1.alloc (.cells VR 52)).heap[V1.heap.size]? = some (.cells VR 52)) := heap_alloc_new _ _
    clear HS1 hb1 hOf
    go_upto_region 4 with (first | (with_reducible refine YtlcdpmjdnihocaaGreat.isStoreR 52 ?_; refine YtlcdpmjdnihocaaGreat.wpList_stNew 52 rfl _ _ rfl V1.heap.size VR Z 52 HVi.out HVs.out HVo.out rfl rfl rfl ?_))
    generalize V1.alloc (.cells VR 52) = V2 at *
    generalize V1.heap.size = gl at *
    have HS3 : Hid (RyS P W V2.drew d s b l i Z) := HS2.out.later hP (Below.refl _ _).drew
    have HV3 : Hid (V2.drew.heap[gl]? = some (.cells VR 52)) := HV2.out
    clear HS2 HV2
    refine wp_region_ord (S := fun u => u.cell? ⟨W.heap.size, 0, none⟩ = some (.int .i64 b)) [(0, true), (1, true), (2, true), (3, true), (4, true), (5, true), (6, false), (7, true), (8, true), (9, true)] (by kernel_rfl) rfl (by kernel_rfl) (fun d _ _ _ _ h => by cases d <;> exact h) (Joins.cell_of_block HS3.out.geo 0) ?_
    simp only [inOrd, List.getElem?_cons_zero, List.getElem?_cons_succ]
    generalize V2.drew = U at *
    refine wpOrd_yield (v := .int .i64 2) rfl (fun u _ => by go_simp) ?_
    simp only [Act.put, List.setIfInBounds_toArray, List.set_cons_succ, List.set_cons_zero]
    refine wpOrd_yield (v := .bool true) rfl (fun u _ => by go_simp) ?_
    simp only [Act.put, List.setIfInBounds_toArray, List.set_cons_succ, List.set_cons_zero]
    refine wpOrd_yield (v := .bool true) rfl (fun u _ => by go_simp) ?_
    simp only [Act.put, List.setIfInBounds_toArray, List.set_cons_succ, List.set_cons_zero]
    refine wpOrd_skip (Joins.cell_of_block HS3.out.geo 0) rfl ?_
    simp only [Act.put, List.setIfInBounds_toArray, List.set_cons_succ, List.set_cons_zero]
    refine wpOrd_skip (Joins.cell_of_block HS3.out.geo 0) rfl ?_
    simp only [Act.put, List.setIfInBounds_toArray, List.set_cons_succ, List.set_cons_zero]
    refine wpOrd_skip (Joins.cell_of_block HS3.out.geo 0) rfl ?_
    simp only [Act.put, List.setIfInBounds_toArray, List.set_cons_succ, List.set_cons_zero]
    refine wpOrd_skip (Joins.cell_of_block HS3.out.geo 0) rfl ?_
    simp only [Act.put, List.setIfInBounds_toArray, List.set_cons_succ, List.set_cons_zero]
    refine wpOrd_skip (Joins.cell_of_block HS3.out.geo 0) rfl ?_
    simp only [Act.put, List.setIfInBounds_toArray, List.set_cons_succ, List.set_cons_zero]
    refine wpOrd_yield (v := .bool true) rfl (fun u _ => by go_simp) ?_
    simp only [Act.put, List.setIfInBounds_toArray, List.set_cons_succ, List.set_cons_zero]
    refine wpOrd_yield (v := .bool true) rfl (fun u _ => by go_simp) ?_
    simp only [Act.put, List.setIfInBounds_toArray, List.set_cons_succ, List.set_cons_zero]
    refine wpOrd_nil ?_
    go_wp2_with (first | (with_reducible refine YtlcdpmjdnihocaaGreat.isStoreR 52 ?_; refine YtlcdpmjdnihocaaGreat.wpList_stR 52 rfl _ _ rfl (W.heap.size + 1) Z Z 52 HL0.out rfl HL1.out rfl rfl HS3.out.res ?_))
    exact YtlcdpmjdnihocaaGreat.retCT Tryz.underlying52 rfl rfl (W.heap.size + 1) Z 52 HL0.out rfl (setRow_heap _ _ _ _ _ _ HS3.out.res) rfl ⟨rfl, HS3.out.set hP HH.out _⟩
end Go.Proofs.YtlcdpmjdnihocaaGreatD
/- Mkfs by the program: its three parts; the blocks are blocks of bytes; for every layout that may be. -/
namespace Go.Proofs.YtlcdpmjdnihocaaGreatD
open Go.RowKit
/-- Bytes. -/
def ByF (f : Nat → Int) : Prop := ∀ i, 0 ≤ f i ∧ f i ≤ 255
theorem by_nought : ByF YtlcdpmjdnihocaaGreat.nought := fun _ => by unfold YtlcdpmjdnihocaaGreat.nought; omega
theorem by_over {F E : Nat → Int} (hF : ByF F) (hE : ByF E) (o n : Nat) : ByF (YtlcdpmjdnihocaaGreatN.over F o n E) := fun i => by
  unfold YtlcdpmjdnihocaaGreatN.over
  split
  · exact hE _
  · exact hF _
theorem by_putN : ∀ (n : Nat) {f : Nat → Int} (k : Nat) (v : Int), ByF f → ByF (YtlcdpmjdnihocaaGreatK.putN f k v n)
  | 0, f, k, v, h => h
  | n + 1, f, k, v, h => by
    unfold YtlcdpmjdnihocaaGreatK.putN
    refine by_putN n (k + 1) (v / 256) fun i => ?_
    unfold YtlcdpmjdnihocaaGreatK.upd
    split
    · omega
    · exact h i
theorem by_encN (k l s b : Int) (d : Nat → Int) : ∀ m : Nat, ByF (YtlcdpmjdnihocaaGreatK.encN k l s b d m)
  | 0 => by
    unfold YtlcdpmjdnihocaaGreatK.encN
    refine by_putN _ _ _ (by_putN _ _ _ (by_putN _ _ _ (by_putN _ _ _ fun i => ?_)))
    unfold YtlcdpmjdnihocaaGreatK.nought
    omega
  | m + 1 => by
    unfold YtlcdpmjdnihocaaGreatK.encN
    exact by_putN _ _ _ (by_encN k l s b d m)
theorem by_enc (s : ByteArray) : ByF (YtlcdpmjdnihocaaGreat.encF 1 s) := by
  unfold YtlcdpmjdnihocaaGreat.encF
  split
  · intro j
    unfold YtlcdpmjdnihocaaGreat.encP
    split
    · omega
    · split
      · omega
      · exact YtlcdpmjdnihocaaGreat.byt_bd _ _
  · exact by_nought
theorem can_nd (g : Int) (rt : Bool) : Can (YtlcdpmjdnihocaaGreat.ndF g rt) := by
  cases rt
  · exact ⟨by_nought, fun _ _ => rfl⟩
  · refine ⟨by_over by_nought (by_encN _ _ _ _ _ _) _ _, fun i hi => ?_⟩
    show YtlcdpmjdnihocaaGreatN.over YtlcdpmjdnihocaaGreat.nought 64 64 _ i = 0
    unfold YtlcdpmjdnihocaaGreatN.over
    rw [if_neg (by omega)]
    rfl
theorem can_sl : Can YtlcdpmjdnihocaaGreat.slF := by
  refine ⟨by_over (by_over by_nought (by_enc _) _ _) (by_enc _) _ _, fun i hi => ?_⟩
  show YtlcdpmjdnihocaaGreatN.over (YtlcdpmjdnihocaaGreatN.over YtlcdpmjdnihocaaGreat.nought 0 16 _) 16 16 _ i = 0
  unfold YtlcdpmjdnihocaaGreatN.over
  rw [if_neg (by omega), if_neg (by omega)]
  rfl
theorem can_bt (n : Nat) (hn : n ≤ 8192) : Can (YtlcdpmjdnihocaaGreat.btF n) := by
  refine ⟨fun j => ?_, fun j hj => ?_⟩
  · unfold YtlcdpmjdnihocaaGreat.btF
    split
    · omega
    · split
      · omega
      · have := YtlcdpmjdnihocaaGreat.pow8 (n - 8 * j) (by omega)
        omega
  · unfold YtlcdpmjdnihocaaGreat.btF
    rw [if_neg (by omega), if_pos (by omega)]
theorem can_co (b l i k : Int) : Can (YtlcdpmjdnihocaaGreat.coF b l i k) := by
  unfold YtlcdpmjdnihocaaGreat.coF
  split
  · exact can_nd _ _
  · split
    · exact can_bt _ (by omega)
    · exact can_sl
theorem can_super (b l i : Int) : Can (YtlcdpmjdnihocaaGreatP.superF b l i) := by
  refine ⟨fun j => YtlcdpmjdnihocaaGreatP.supF_byte _ j, fun j hj => ?_⟩
  unfold YtlcdpmjdnihocaaGreatP.superF YtlcdpmjdnihocaaGreatP.supF
  rw [if_neg (by omega), if_neg (by omega)]
theorem head_nil : blk (YtlcdpmjdnihocaaGreatH.H.headF []) = blk nought := blk_congr fun j hj => by
  show YtlcdpmjdnihocaaGreatH.H.wordF [((0 : Nat) : Int)] j = 0
  unfold YtlcdpmjdnihocaaGreatH.H.wordF
  rcases (show j / 4 = 0 ∨ 1 ≤ j / 4 by omega) with h | h
  · rw [h]; simp
  · rw [List.getD_eq_getElem?_getD, List.getElem?_eq_none (by simpa using h)]; simp
theorem headEnc_ok {b l i : Int} (hf : YtlcdpmjdnihocaaGreatP.Fine b l i) (w : World) :
    Calls Tryz.prog 60 #[YtlcdpmjdnihocaaGreatP.layV b l i, .agg #[.slice none 0 0]] w fun e w' => e = .returned (.tuple #[.agg (blk nought), .int .i64 0]) ∧ Below w.heap.size w w' := by
  obtain ⟨b1, b2, b3, b4, _⟩ := YtlcdpmjdnihocaaGreat.fine_bd hf
  have h := YtlcdpmjdnihocaaGreatH.H.enc_ok b l i 1 (1 + l) (YtlcdpmjdnihocaaGreatP.nodeB i) (YtlcdpmjdnihocaaGreatP.bitsAt l i) (YtlcdpmjdnihocaaGreatP.bitsB b) (YtlcdpmjdnihocaaGreatP.dataAt b l i) [] none 0 w (by unfold YtlcdpmjdnihocaaGreatH.H.I64; omega) (decide_eq_true ⟨hf, rfl, rfl, rfl, rfl, rfl, rfl⟩) ⟨b3, b4⟩ (fun q => by simp at q) (fun x hx => by simp at hx) (by simp) (decide_eq_true ⟨by simp; omega, fun t ht => by simp at ht, List.Pairwise.nil⟩)
  rw [show YtlcdpmjdnihocaaGreatH.blk (YtlcdpmjdnihocaaGreatH.H.headF []) = blk nought from head_nil] at h
  exact h
theorem superEnc_ok {b l i : Int} (hf : YtlcdpmjdnihocaaGreatP.Fine b l i) (w : World) :
    Calls Tryz.prog 62 #[YtlcdpmjdnihocaaGreatP.layV b l i] w fun e w' => e = .returned (.tuple #[.agg (blk (YtlcdpmjdnihocaaGreatP.superF b l i)), .int .i64 0]) ∧ Below w.heap.size w w' := YtlcdpmjdnihocaaGreatP.encode_fine b l i w hf
theorem contentD_ok {b l i k : Int} (hf : YtlcdpmjdnihocaaGreatP.Fine b l i) (hk : 1 + l ≤ k ∧ k ≤ YtlcdpmjdnihocaaGreatP.dataAt b l i) (w : World) :
    Calls Tryz.prog 61 #[YtlcdpmjdnihocaaGreatP.layV b l i, .int .i64 k] w fun e w' => e = .returned (.agg (blk (YtlcdpmjdnihocaaGreat.coF b l i k))) ∧ Below w.heap.size w w' := YtlcdpmjdnihocaaGreat.content_ok b l i k hf hk w
variable {P : World → Loc → Prop} {W : World} {d : Nat} {s : St}
theorem zeroBk : ∀ w, (zeroValue 79).run Tryz.prog w = .ok (.agg (blk nought)) w := YtlcdpmjdnihocaaGreat.zero77
theorem buildBk (u : World) : (Instr.build 79 #[]).run Tryz.prog u = .ok (.agg (blk nought)) u := by
  have z := zeroBk u
  generalize blk nought = B at *
  simp [go_sem, z]
set_option maxRecDepth 20000 in
set_option maxHeartbeats 1000000 in
theorem erase_ok (hP : Stays P) (h : Has P W d s) (hr : Room s) (b l i : Int) :
    Calls Tryz.prog 39 #[.pointer (some ⟨d, 0, none⟩), YtlcdpmjdnihocaaGreatP.layV b l i] W fun e W' => e = .returned (.int .i64 (runL s mkA).2) ∧ Has P W' d (runL s mkA).1 := by
  have hb := buildBk
  have hwr := has_write hP (h.later hP (below_new W (.cells (YtlcdpmjdnihocaaGreatP.lay9 b l i 1 (1 + l) (YtlcdpmjdnihocaaGreatP.nodeB i) (YtlcdpmjdnihocaaGreatP.bitsAt l i) (YtlcdpmjdnihocaaGreatP.bitsB b) (YtlcdpmjdnihocaaGreatP.dataAt b l i)) 52))) hr 0 can_nought
  have hE : (runL s mkA) = (writeV s 0 nought, writeE s 0) := by
    unfold mkA
    rw [runL_cons]
    show (if writeE s 0 = 0 then (writeV s 0 nought, 0) else (writeV s 0 nought, writeE s 0)) = _
    split
    · rename_i q; rw [q]
    · rfl
  rw [hE]
  clear hE
  unfold YtlcdpmjdnihocaaGreatP.layV
  generalize YtlcdpmjdnihocaaGreatP.lay9 b l i 1 (1 + l) (YtlcdpmjdnihocaaGreatP.nodeB i) (YtlcdpmjdnihocaaGreatP.bitsAt l i) (YtlcdpmjdnihocaaGreatP.bitsB b) (YtlcdpmjdnihocaaGreatP.dataAt b l i) = L at *
  generalize nought = N at *
  clear h
  go_enter Tryz.func39, Tryz.ntmps39
  go_wp2_with (first | refine wpList_build58w rfl rfl hb ?_ | (go_at_call 59; fail))
  refine hwr.mono ?_
  rintro e W1 ⟨rfl, h1⟩
  go_wp2
  go_ret
  exact ⟨rfl, h1⟩
set_option maxRecDepth 20000 in
set_option maxHeartbeats 2000000 in
theorem sign_ok (hP : Stays P) (h : Has P W d s) (hr : Room s) {b l i : Int} (hf : YtlcdpmjdnihocaaGreatP.Fine b l i) :
    Calls Tryz.prog 41 #[.pointer (some ⟨d, 0, none⟩), YtlcdpmjdnihocaaGreatP.layV b l i] W fun e W' => e = .returned (.int .i64 (runL s (mkC b l i)).2) ∧ Has P W' d (runL s (mkC b l i)).1 := by
  have hen := fun u => superEnc_ok hf u
  have hcs := can_super b l i
  have hE : runL s (mkC b l i) = (writeV s 0 (YtlcdpmjdnihocaaGreatP.superF b l i), writeE s 0) := by
    unfold mkC
    rw [runL_cons]
    show (if writeE s 0 = 0 then (writeV s 0 (YtlcdpmjdnihocaaGreatP.superF b l i), 0) else (writeV s 0 (YtlcdpmjdnihocaaGreatP.superF b l i), writeE s 0)) = _
    split
    · rename_i q; rw [q]
    · rfl
  rw [hE]
  clear hE
  have hz := zeroBk
  have HI : Hid _ := layIn b l i
  unfold YtlcdpmjdnihocaaGreatP.layV at *
  generalize YtlcdpmjdnihocaaGreatP.lay9 b l i 1 (1 + l) (YtlcdpmjdnihocaaGreatP.nodeB i) (YtlcdpmjdnihocaaGreatP.bitsAt l i) (YtlcdpmjdnihocaaGreatP.bitsB b) (YtlcdpmjdnihocaaGreatP.dataAt b l i) = L at *
  generalize YtlcdpmjdnihocaaGreatP.superF b l i = F at *
  have HP : Hid (∀ V, Has P V d s → Calls Tryz.prog 59 #[.pointer (some ⟨d, 0, none⟩), .int .i64 0, .agg (blk F)] V fun e W' => e = .returned (.int .i64 (writeE s 0)) ∧ Has P W' d (writeV s 0 F)) := fun V hV => has_write hP hV hr 0 hcs
  have HH : Hid (Has P (W.alloc (.cells L 52)) d s) := h.later hP (below_new _ _)
  have HL : Hid ((W.alloc (.cells L 52)).heap[W.heap.size]? = some (.cells L 52)) := heap_alloc_new _ _
  clear h
  go_enter Tryz.func41, Tryz.ntmps41
  go_upto_region 1 with fail
  generalize W.alloc (.cells L 52) = V at *
  go_wp2_with (first | (with_reducible refine YtlcdpmjdnihocaaGreat.isLoadR 52 ?_; refine YtlcdpmjdnihocaaGreat.wpList_ldR 52 Tryz.underlying52 rfl rfl _ rfl W.heap.size rfl L 52 (0, 0) HI.out HL.out ?_) | (go_at_call 62; fail))
  refine (hen _).mono ?_
  rintro e V1 ⟨rfl, hb⟩
  have HH1 : Hid (Has P (V1.alloc (.cells (blk F) 79)) d s) := (HH.out.later hP hb).later hP (below_new _ _)
  have HB : Hid ((V1.alloc (.cells (blk F) 79)).heap[V1.heap.size]? = some (.cells (blk F) 79)) := heap_alloc_new _ _
  clear HH hb hen
  go_upto_region 2 with (first | refine wpList_store58_new rfl _ _ rfl F _ V1.heap.size rfl rfl rfl ?_)
  generalize V1.alloc (.cells (blk F) 79) = V2 at *
  generalize V1.heap.size = gb at *
  go_wp2_with (first | refine wpList_load58w rfl _ rfl gb rfl F HB.out ?_ | (go_at_call 59; fail))
  refine (HP.out _ HH1.out).mono ?_
  rintro e W1 ⟨rfl, h1⟩
  go_wp2
  go_ret
  exact ⟨rfl, h1⟩
theorem buildHd (u : World) : (Instr.build 104 #[]).run Tryz.prog u = .ok (.agg #[.slice none 0 0]) u := by
  have z : ∀ w, (zeroValue 104).run Tryz.prog w = .ok (.agg #[.slice none 0 0]) w := (zero_of_info (show (Tryz.prog.info? 104).map (fun i => (i.zero, i.size)) = some (some (.agg #[.slice none 0 0]), 1) by kernel_rfl)).1
  simp [go_sem, z]
/-- What is beside the disk while fill goes: the layout and the header. -/
structure FlS (P : World → Loc → Prop) (W0 W : World) (d : Nat) (s : St) (L : Array Value) (gb : Nat) : Prop where
  has : Has P W d s
  lay : W.heap[W0.heap.size]? = some (.cells L 52)
  hdr : W.heap[gb]? = some (.cells (blk nought) 79)
  bel : W0.heap.size < W.heap.size
/-- Blocks stay beside a disk that stays apart from them. -/
def Keep2 (P : World → Loc → Prop) (g : Nat) (o : Obj) (W : World) (L : Loc) : Prop := P W L ∧ W.heap[g]? = some o ∧ ¬ L.has g
theorem keep2_stays {P : World → Loc → Prop} (hP : Stays P) (g : Nat) (o : Obj) : Stays (Keep2 P g o) := fun W W' L L' hlt ⟨h1, h2, h3⟩ hG => by
  have hg : g < W.heap.size := (Array.getElem?_eq_some_iff.1 h2).1
  refine ⟨hP W W' L L' hlt h1 hG, (hG.fr.block g hg h3).trans h2, fun q => ?_⟩
  rcases hG.own g q with r | r
  · exact h3 r
  · omega
theorem Has.keep2 {P : World → Loc → Prop} {W : World} {d : Nat} {s : St} (hP : Stays P) (h : Has P W d s) (o : Obj) : Has (Keep2 P W.heap.size o) (W.alloc o) d s := by
  obtain ⟨L, hd, hD, hp⟩ := h
  exact ⟨L, hd, hD.later (below_new W o), hP _ _ L L hD.lt hp (Goes.ofBelow L (below_new W o)), heap_alloc_new _ _, fun q => by have := hD.lt _ q; omega⟩
theorem Has.unkeep2 {P : World → Loc → Prop} {W : World} {d g : Nat} {s : St} {o : Obj} (h : Has (Keep2 P g o) W d s) : Has P W d s ∧ W.heap[g]? = some o := by
  obtain ⟨L, hd, hD, h1, h2, _⟩ := h
  exact ⟨⟨L, hd, hD, h1⟩, h2⟩
set_option maxRecDepth 20000 in
set_option maxHeartbeats 4000000 in
theorem fill_ok (hP : Stays P) (h : Has P W d s) {b l i : Int} (hf : YtlcdpmjdnihocaaGreatP.Fine b l i) (hw : Wide s (mkN b l i + 2)) :
    Calls Tryz.prog 40 #[.pointer (some ⟨d, 0, none⟩), YtlcdpmjdnihocaaGreatP.layV b l i] W fun e W' => e = .returned (.int .i64 (runL s (mkB b l i)).2) ∧ Has P W' d (runL s (mkB b l i)).1 := by
  have hen := fun u => headEnc_ok hf u
  have hco : ∀ k : Nat, k < mkN b l i → ∀ u, Calls Tryz.prog 61 #[YtlcdpmjdnihocaaGreatP.layV b l i, .int .i64 (1 + l + (k : Int))] u fun e w' => e = .returned (.agg (blk (YtlcdpmjdnihocaaGreat.coF b l i (1 + l + (k : Int))))) ∧ Below u.heap.size u w' := fun k hk u => contentD_ok hf (by unfold mkN at hk; obtain ⟨b1, b2, b3, b4, b5, b6, b7, b8⟩ := YtlcdpmjdnihocaaGreat.fine_bd hf; omega) u
  have HF : Hid (35 ≤ b ∧ b ≤ 1048576 ∧ 32 ≤ l ∧ l ≤ 256 ∧ (mkN b l i : Int) = YtlcdpmjdnihocaaGreatP.dataAt b l i - l ∧ YtlcdpmjdnihocaaGreatP.dataAt b l i < b) := by
    obtain ⟨b1, b2, b3, b4, b5, b6, b7, b8⟩ := YtlcdpmjdnihocaaGreat.fine_bd hf
    show _ ∧ _
    unfold mkN
    omega
  have HR : Hid (∀ j, j < mkN b l i → mkR b l i j = some (1 + l + (j : Int), YtlcdpmjdnihocaaGreat.coF b l i (1 + l + (j : Int))) :: mkR b l i (j + 1)) := fun j hj => mkR_step b l i j hj
  have HRe : Hid (mkR b l i (mkN b l i) = []) := mkR_end b l i
  have HB0 : Hid (runL s (mkB b l i) = if writeE s 1 = 0 then runL (writeV s 1 nought) (mkR b l i 0) else (writeV s 1 nought, writeE s 1)) := by
    show _ = _
    unfold mkB
    exact runL_cons _ _ _
  have HCn : Hid (∀ k : Int, Can (YtlcdpmjdnihocaaGreat.coF b l i k)) := can_co b l i
  have HCz : Hid (Can nought) := can_nought
  have hbh := buildHd
  have HI : Hid _ := layIn b l i
  have l3 : (YtlcdpmjdnihocaaGreatP.lay9 b l i 1 (1 + l) (YtlcdpmjdnihocaaGreatP.nodeB i) (YtlcdpmjdnihocaaGreatP.bitsAt l i) (YtlcdpmjdnihocaaGreatP.bitsB b) (YtlcdpmjdnihocaaGreatP.dataAt b l i))[3]? = some (.int .i64 1) := rfl
  have l4 : (YtlcdpmjdnihocaaGreatP.lay9 b l i 1 (1 + l) (YtlcdpmjdnihocaaGreatP.nodeB i) (YtlcdpmjdnihocaaGreatP.bitsAt l i) (YtlcdpmjdnihocaaGreatP.bitsB b) (YtlcdpmjdnihocaaGreatP.dataAt b l i))[4]? = some (.int .i64 (1 + l)) := rfl
  have l8 : (YtlcdpmjdnihocaaGreatP.lay9 b l i 1 (1 + l) (YtlcdpmjdnihocaaGreatP.nodeB i) (YtlcdpmjdnihocaaGreatP.bitsAt l i) (YtlcdpmjdnihocaaGreatP.bitsB b) (YtlcdpmjdnihocaaGreatP.dataAt b l i))[8]? = some (.int .i64 (YtlcdpmjdnihocaaGreatP.dataAt b l i)) := rfl
  have HL3 : Hid _ := l3
  have HL4 : Hid _ := l4
  have HL8 : Hid _ := l8
  clear l3 l4 l8
  unfold YtlcdpmjdnihocaaGreatP.layV at *
  generalize YtlcdpmjdnihocaaGreatP.lay9 b l i 1 (1 + l) (YtlcdpmjdnihocaaGreatP.nodeB i) (YtlcdpmjdnihocaaGreatP.bitsAt l i) (YtlcdpmjdnihocaaGreatP.bitsB b) (YtlcdpmjdnihocaaGreatP.dataAt b l i) = L at *
  have HCo : Hid (∀ k : Nat, k < mkN b l i → ∀ u, Calls Tryz.prog 61 #[.agg L, .int .i64 (1 + l + (k : Int))] u fun e w' => e = .returned (.agg (blk (YtlcdpmjdnihocaaGreat.coF b l i (1 + l + (k : Int))))) ∧ Below u.heap.size u w') := hco
  clear hco
  obtain ⟨R, hR⟩ : ∃ R, runL s (mkB b l i) = R := ⟨_, rfl⟩
  rw [hR] at HB0 ⊢
  generalize YtlcdpmjdnihocaaGreatP.dataAt b l i = D at *
  generalize mkR b l i = mr at *
  generalize YtlcdpmjdnihocaaGreat.coF b l i = cf at *
  generalize mkN b l i = n at *
  have HWr : Hid (∀ (Q : World → Loc → Prop), Stays Q → ∀ (t : St) (V : World) (k : Int) (f : Nat → Int), Room t → Can f → Has Q V d t → Calls Tryz.prog 59 #[.pointer (some ⟨d, 0, none⟩), .int .i64 k, .agg (blk f)] V fun e W' => e = .returned (.int .i64 (writeE t k)) ∧ Has Q W' d (writeV t k f)) := fun Q hQ t V k f hr hc hV => has_write hQ hV hr k hc
  have HK : Hid (Has (Keep2 P W.heap.size (.cells L 52)) (W.alloc (.cells L 52)) d s) := h.keep2 hP _
  have hKs := keep2_stays hP W.heap.size (.cells L 52)
  have HKs : Hid _ := hKs
  have HU : Hid (∀ V t, Has (Keep2 P W.heap.size (.cells L 52)) V d t → Has P V d t) := fun V t q => q.unkeep2.1
  have HUl : Hid (∀ V t, Has (Keep2 P W.heap.size (.cells L 52)) V d t → V.heap[W.heap.size]? = some (.cells L 52)) := fun V t q => q.unkeep2.2
  clear h hR
  generalize Keep2 P W.heap.size (.cells L 52) = KP at *
  go_enter Tryz.func40, Tryz.ntmps40
  go_upto_region 1 with fail
  generalize W.alloc (.cells L 52) = V at *
  have HLy : Hid _ := HUl.out _ _ HK.out
  have hz := zeroBk
  go_wp2_with (first | (with_reducible refine YtlcdpmjdnihocaaGreat.isLoadR 52 ?_; refine YtlcdpmjdnihocaaGreat.wpList_ldR 52 Tryz.underlying52 rfl rfl _ rfl W.heap.size rfl L 52 (0, 0) HI.out HLy.out ?_) | (go_at_call 60; fail))
  refine (hen _).mono ?_
  rintro e V1 ⟨rfl, hb⟩
  have HK1 : Hid (Has KP (V1.alloc (.cells (blk nought) 79)) d s) := (HK.out.later hKs hb).later hKs (below_new _ _)
  have HB : Hid ((V1.alloc (.cells (blk nought) 79)).heap[V1.heap.size]? = some (.cells (blk nought) 79)) := heap_alloc_new _ _
  clear HK hb hen HLy
  generalize nought = N at *
  go_upto_region 2 with (first | refine wpList_store58_new rfl _ _ rfl N _ V1.heap.size rfl rfl rfl ?_)
  generalize V1.alloc (.cells (blk N) 79) = V2 at *
  generalize V1.heap.size = gb at *
  have hLy2 := HUl.out _ _ HK1.out
  have c3 : V2.cell? ⟨W.heap.size, 3, none⟩ = some (.int .i64 1) := (cell_of_row _ _ 3 _ _ _ hLy2).trans HL3.out
  clear hLy2
  go_wp2_with (first | refine wpList_load58w rfl _ rfl gb rfl N HB.out ?_ | (go_at_call 59; fail))
  refine (HWr.out KP hKs s V2 1 N hw.room HCz.out HK1.out).mono ?_
  rintro e V3 ⟨rfl, hK3⟩
  have HK3 : Hid (Has KP V3 d (writeV s 1 N)) := hK3
  have HW3 : Hid (Wide (writeV s 1 N) (n + 1)) := Wide.doV hw (some (1, N))
  have c4 : V3.cell? ⟨W.heap.size, 4, none⟩ = some (.int .i64 (1 + l)) := (cell_of_row _ _ 4 _ _ _ (HUl.out _ _ hK3)).trans HL4.out
  clear hK3 HK1 c3 HB hw
  generalize writeV s 1 N = t0 at *
  generalize writeE s 1 = e0 at *
  go_wp2_with fail
  clear c4
  go_loopw [6, 7] (fun s6 s7 wx => ∃ (j : Nat) (t : St) (er : Int), j ≤ n ∧ s7 = .int .i64 (1 + l + (j : Int)) ∧ s6 = .int .i64 er ∧ Hid (Has KP wx d t) ∧ Hid (R = if er = 0 then runL t (mr j) else (t, er)) ∧ Hid (Wide t (n + 1 - j))) (fun _ s7 _ => (1 + l + n - intOf s7).toNat)
  case atStart => exact ⟨0, t0, e0, by omega, by simp, rfl, HK3.out, HB0.out, HW3.out⟩
  case round =>
    obtain ⟨j, t, er, hj, rfl, rfl, HT, HRt, HWt⟩ := hrel
    clear HK3 HB0 HW3
    have c8 : wr.cell? ⟨W.heap.size, 8, none⟩ = some (.int .i64 D) := (cell_of_row _ _ 8 _ _ _ (HUl.out _ _ HT.out)).trans HL8.out
    by_cases her : er = 0
    · subst her
      have hRt := HRt.out
      rw [if_pos rfl] at hRt
      by_cases hjn : j < n
      · have hd : decide (1 + l + (j : Int) ≤ D) = true := decide_eq_true (by have := HF.out; omega)
        have HR2 : Hid (R = if writeE t (1 + l + (j : Int)) = 0 then runL (writeV t (1 + l + (j : Int)) (cf (1 + l + (j : Int)))) (mr (j + 1)) else (writeV t (1 + l + (j : Int)) (cf (1 + l + (j : Int))), writeE t (1 + l + (j : Int)))) := by
          show _ = _
          rw [hRt, HR.out j hjn]
          exact runL_cons _ _ _
        have HJ : Hid (j < n ∧ n + 1 - j = (n + 1 - (j + 1)) + 1) := ⟨hjn, by omega⟩
        have HCj : Hid _ := HCo.out j hjn
        have W1 : IntKind.i64.wrap (1 + l + (j : Int) + 1) = 1 + l + ((j + 1 : Nat) : Int) := by have := HF.out; rw [IntKind.wrap_i64]; omega
        clear HRt hRt hjn hj
        go_wp2_with (first | (with_reducible refine YtlcdpmjdnihocaaGreat.isLoadR 52 ?_; refine YtlcdpmjdnihocaaGreat.wpList_ldR 52 Tryz.underlying52 rfl rfl _ rfl W.heap.size rfl L 52 (0, 0) HI.out (HUl.out _ _ HT.out) ?_) | (go_at_call 61; fail))
        refine (HCj.out _).mono ?_
        rintro e V4 ⟨rfl, hb4⟩
        have HT4 : Hid _ := HT.out.later hKs hb4
        have hWj := HWt.out
        rw [HJ.out.2] at hWj
        clear HT hb4 HCj c8
        go_wp2_with (go_at_call 59; fail)
        refine (HWr.out KP hKs t V4 (1 + l + (j : Int)) (cf (1 + l + (j : Int))) hWj.room (HCn.out _) HT4.out).mono ?_
        rintro e V5 ⟨rfl, hK5⟩
        have HK5 : Hid _ := hK5
        have HW5 : Hid (Wide (writeV t (1 + l + (j : Int)) (cf (1 + l + (j : Int)))) (n + 1 - (j + 1))) := hWj.doV (some (1 + l + (j : Int), cf (1 + l + (j : Int))))
        clear hK5 hWj HT4 HWt
        generalize writeV t (1 + l + (j : Int)) (cf (1 + l + (j : Int))) = t2 at *
        generalize writeE t (1 + l + (j : Int)) = e2 at *
        go_wp2_with fail
        exact ⟨⟨j + 1, t2, e2, by have := HJ.out; omega, rfl, rfl, HK5.out, HR2.out, HW5.out⟩, by have := HJ.out; simp [intOf]; omega⟩
      · obtain rfl : j = n := by omega
        have hd : decide (1 + l + (j : Int) ≤ D) = false := decide_eq_false (by have := HF.out; omega)
        have HRr : Hid (R = (t, 0)) := by show _ = _; rw [hRt, HRe.out]; rfl
        clear HRt hRt hjn HWt
        go_wp2_with fail
        go_ret
        exact ⟨by rw [HRr.out]; rfl, by rw [HRr.out]; exact HU.out _ _ HT.out⟩
    · have HRr : Hid (R = (t, er)) := by show _ = _; rw [HRt.out, if_neg her]
      have her2 : (er == 0) = false := by simpa using her
      clear HRt HWt her
      by_cases hd0 : 1 + l + (j : Int) ≤ D
      · have hd : decide (1 + l + (j : Int) ≤ D) = true := decide_eq_true hd0
        clear hd0
        go_wp2_with fail
        go_ret
        exact ⟨by rw [HRr.out]; rfl, by rw [HRr.out]; exact HU.out _ _ HT.out⟩
      · have hd : decide (1 + l + (j : Int) ≤ D) = false := decide_eq_false hd0
        clear hd0
        go_wp2_with fail
        go_ret
        exact ⟨by rw [HRr.out]; rfl, by rw [HRr.out]; exact HU.out _ _ HT.out⟩
end Go.Proofs.YtlcdpmjdnihocaaGreatD
