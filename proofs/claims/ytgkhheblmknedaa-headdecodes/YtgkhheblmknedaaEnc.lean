/- Encode of head: the header's block, or none; for every layout and every list of targets. -/
import Derived.Test.YtgkhheblmknedaaWords
import Derived.Test.YtgkhheblmknedaaFork
namespace Go.Proofs.Ytgkhheblmknedaa
open Go.RowKit
theorem load30L (w : World) (g : Nat) (f : Nat → Int) (h : w.heap[g]? = some (.cells (blk f) 30)) : (loadVar 30 ⟨g, 0, none⟩).run Try.prog w = .ok (.agg (blk f)) w :=
  run_loadVar_row w g 30 30 (blk f) (0, 0) _ h Try.underlying30 rfl (by rw [blk_size]; exact size25)
theorem wpOrd_loadB {ops : Array Oper} {Q : Exit → Act → World → Prop} {S : World → Prop} {r : List (Bool × Oper)} {a : Act} {w : World} {o : Oper} (hw : Region.wanted o (yielded ops a.tmps) = true)
    (x : Operand) (ho : o.op = .load 30 x) (g : Nat) (hx : a.eval x = .pointer (some ⟨g, 0, none⟩)) (f : Nat → Int) (hg : ∀ u, S u → u.heap[g]? = some (.cells (blk f) 30))
    (h : wpOrd Try.prog ops Q S r (a.put o.dst (.agg (blk f))) w) : wpOrd Try.prog ops Q S ((true, o) :: r) a w := by
  refine wpOrd_yield hw (fun u hu => ?_) h
  unfold execOp
  simp only [ho, hx, Instr.loadAt, Instr.sureAddr, Sem.run_bind, Sem.run_pure, Result.andThen_ok, run_loadVar_row u g 30 30 (blk f) (0, 0) _ (hg u hu) Try.underlying30 rfl (by rw [blk_size]; exact size25)]
theorem wpOrd_loadF {ops : Array Oper} {Q : Exit → Act → World → Prop} {S : World → Prop} {r : List (Bool × Oper)} {a : Act} {w : World} {o : Oper} (hw : Region.wanted o (yielded ops a.tmps) = true)
    (x : Operand) (ho : o.op = .load 30 x) (g : Nat) (hx : a.eval x = .pointer (some ⟨g, 0, none⟩)) (f : Nat → Int) (hg : w.heap[g]? = some (.cells (blk f) 30))
    (h : S w ∧ wpOrd Try.prog ops Q S r (a.put o.dst (.agg (blk f))) w) : wpOrd Try.prog ops Q S ((false, o) :: r) a w := by
  simp only [wpOrd, hw, if_true]
  unfold Oper.wp execOp
  simp only [ho, hx, Instr.loadAt, Instr.sureAddr, Sem.run_bind, Sem.run_pure, Result.andThen_ok, run_loadVar_row w g 30 30 (blk f) (0, 0) _ hg Try.underlying30 rfl (by rw [blk_size]; exact size25)]
  exact h
theorem wpOrd_storeB {ops : Array Oper} {Q : Exit → Act → World → Prop} {S : World → Prop} {r : List (Bool × Oper)} {a : Act} {w : World} {o : Oper} (hw : Region.wanted o (yielded ops a.tmps) = true)
    (x y : Operand) (ho : o.op = .store 30 x y) (g : Nat) (f f0 : Nat → Int) (hx : a.eval x = .pointer (some ⟨g, 0, none⟩)) (hy : a.eval y = .agg (blk f)) (hg : w.heap[g]? = some (.cells (blk f0) 30))
    (h : S (w.setRow g (blk f)) ∧ wpOrd Try.prog ops Q S r (a.put o.dst undef) (w.setRow g (blk f))) : wpOrd Try.prog ops Q S ((false, o) :: r) a w := by
  simp only [wpOrd, hw, if_true]
  unfold Oper.wp execOp
  simp only [ho, hx, hy, Instr.storeAt, Instr.sureAddr, Sem.run_bind, Sem.run_pure, Result.andThen_ok, run_storeVar_row w g 30 30 (blk f0) (blk f) hg (by rw [blk_size]; exact size25) (by rw [blk_size, blk_size]) (blk_one f)]
  exact h
theorem place_any (k : Int) (w : World) (h : 0 ≤ k ∧ k ≤ 300) : Calls Try.prog 35 #[.int .i64 k] w fun e w' => e = .returned (.int .i64 (4 * (k + 1))) ∧ w' = w := by
  go_enter Try.func35, Try.ntmps35
  go_wp2
  go_ret
  exact ⟨by congr 2, rfl⟩
theorem heap3o (w : World) (A B C : Obj) : (((w.alloc A).alloc B).alloc C).heap[w.heap.size]? = some A := by
  rw [heap_alloc_old _ _ (by simp; omega)]; exact heap_alloc2_old _ _ _
theorem cell_one {w : World} {g : Nat} {v : Value} {t : TypeId} (h : w.heap[g]? = some (.cells #[v] t)) : w.cell? ⟨g, 0, none⟩ = some v := by
  rw [cell_of_row w g _ _ t _ h]; rfl
theorem below3 (w : World) (A B C : Obj) : Below w.heap.size w (((w.alloc A).alloc B).alloc C) := bel_al (bel_al (below_new _ _) _) _
set_option maxRecDepth 20000 in
set_option maxHeartbeats 400000 in
theorem enc_not (b l i a c d e f g : Int) (v : Value) (w : World) (hb : I64 b) (hs : standsB b l i a c d e f g = false) :
    Calls Try.prog 11 #[.agg (lay9 b l i a c d e f g), .agg #[v]] w fun e' w' => e' = .returned (.tuple #[.agg (blk nought), .int .i64 2]) ∧ Below w.heap.size w w' := by
  have hc := fun w => hstands_any b l i a c d e f g w hb
  rw [hs] at hc
  clear hs
  have z25 := zero25
  have hsz : (lay9 b l i a c d e f g).size = 9 := rfl
  generalize lay9 b l i a c d e f g = L at *
  go_enter Try.func11, Try.ntmps11
  go_wp2_with (first | refine wpList_loadL rfl _ rfl _ rfl _ hsz (heap3o _ _ _ _) ?_ | (go_at_call 33; fail))
  refine (hc _).mono ?_
  rintro e' W1 ⟨rfl, hb1⟩
  have h2 := heap_kept (heap3n w _ _ _) hb1
  have HB : Hid (Below w.heap.size w W1) := below_next (below3 _ _ _ _) hb1
  clear hb1 hc
  go_wp2_with (first | refine wpList_store25 rfl _ _ rfl _ _ rfl rfl _ h2 ?_)
  refine retCT rfl (w.heap.size + 2) _ rfl (load30L _ _ _ (setRow_heap _ _ _ _ _ _ h2)) rfl ⟨rfl, below_setRow HB.out (by omega) _⟩
set_option maxRecDepth 20000 in
set_option maxHeartbeats 400000 in
theorem enc_bad (b l i a c d e f g : Int) (ts : List Int) (p : Option Addr) (cap : Nat) (w : World) (hb : I64 b) (hs : standsB b l i a c d e f g = true) (hl : 32 ≤ l ∧ l ≤ 256) (hlen : ts.length < 9223372036854775807) (hts : IntsAt w p ts) (hwf : WfI ts)
    (hm : mayB c b (l - 1) ts = false) :
    Calls Try.prog 11 #[.agg (lay9 b l i a c d e f g), .agg #[.slice p ts.length cap]] w fun e' w' => e' = .returned (.tuple #[.agg (blk nought), .int .i64 4]) ∧ Below w.heap.size w w' := by
  have hc := fun w => hstands_any b l i a c d e f g w hb
  rw [hs] at hc
  have hM := fun W (h : IntsAt W p ts) => may_any b l i a c d e f g ts p cap W hl hlen h hwf
  rw [hm] at hM
  clear hs hm
  have z25 := zero25
  have hsz : (lay9 b l i a c d e f g).size = 9 := rfl
  have HT : Hid (IntsAt w p ts) := hts
  clear hts hwf
  generalize lay9 b l i a c d e f g = L at *
  have HM : Hid (∀ W, IntsAt W p ts → Calls Try.prog 34 #[.agg L, .slice p ts.length cap] W fun e' w' => e' = .returned (.bool false) ∧ Below W.heap.size W w') := hM
  clear hM
  generalize ts.length = n at *
  go_enter Try.func11, Try.ntmps11
  go_wp2_with (first | refine wpList_loadL rfl _ rfl _ rfl _ hsz (heap3o _ _ _ _) ?_ | (go_at_call 33; fail))
  refine (hc _).mono ?_
  rintro e' W1 ⟨rfl, hb1⟩
  have h0 := heap_kept (heap3o w _ _ _) hb1
  have h1 := cell_one (heap_kept (heap3 w _ _ _) hb1)
  have h2 := heap_kept (heap3n w _ _ _) hb1
  have HB : Hid (Below w.heap.size w W1) := below_next (below3 _ _ _ _) hb1
  clear hb1 hc
  go_wp2_with (first | refine wpList_loadL rfl _ rfl _ rfl _ hsz h0 ?_ | (go_at_call 34; fail))
  refine (HM.out _ (HT.out.later HB.out)).mono ?_
  rintro e' W2 ⟨rfl, hb2⟩
  have h3 := heap_kept h2 hb2
  have HB2 : Hid (Below w.heap.size w W2) := below_next HB.out hb2
  clear hb2 HM h0 h1 h2 HB
  go_wp2_with (first | refine wpList_store25 rfl _ _ rfl _ _ rfl rfl _ h3 ?_)
  refine retCT rfl (w.heap.size + 2) _ rfl (load30L _ _ _ (setRow_heap _ _ _ _ _ _ h3)) rfl ⟨rfl, below_setRow HB2.out (by omega) _⟩
end Go.Proofs.Ytgkhheblmknedaa
