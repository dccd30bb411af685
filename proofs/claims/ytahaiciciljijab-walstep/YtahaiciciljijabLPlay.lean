/- A play in memory: its row, its steps, its numbers; what a walk reads of it; no condition. -/
import Derived.Test.YtahaiciciljijabLWr
import Derived.Test.YtahaiciciljijabLStill
namespace Go.Proofs.Ytahaiciciljijab
open Go.RowKit Go.Maps
theorem size53 : (Try.prog.info? 28).map (·.size) = some 9 := by kernel_rfl
theorem size23p : (Try.prog.info? 23).map (·.size) = some 3 := by kernel_rfl
variable {u w W : World} {q : Nat} {b l i : Int} {p p2 p3 p4 : Option Addr} {n c n2 c2 n3 c3 n4 c4 : Nat} {st ag : Int} {ss : List (Option Addr × Nat × Nat)} {sy : List Int}
theorem exec_loadG {a : Act} {o : Oper} {y : Operand} (ho : o.op = .load 23 y) (hx : a.eval y = .pointer (some ⟨q, 0, none⟩)) (h : u.heap[q]? = some (.cells (playA b l i p n c p2 n2 c2 st p3 n3 c3 ag p4 n4 c4) 28)) :
    (execOp a.eval o).run Try.prog u = .ok (.value (.agg #[.int .i64 b, .int .i64 l, .int .i64 i])) u := by
  have e := run_loadVar_mid (P := Try.prog) u q 0 23 [.int .i64 b, .int .i64 l, .int .i64 i] _ (World.rangeAt_of_block h 0 3) Try.underlying23 rfl size23p
  unfold execOp
  simp only [ho, hx, Instr.loadAt, Instr.sureAddr, Sem.run_bind, Sem.run_pure, Result.andThen_ok, e]
theorem play_cells (h : u.heap[q]? = some (.cells (playA b l i p n c p2 n2 c2 st p3 n3 c3 ag p4 n4 c4) 28)) : u.cell? ⟨q, 0, none⟩ = some (.int .i64 b) ∧ u.cell? ⟨q, 1, none⟩ = some (.int .i64 l) ∧ u.cell? ⟨q, 3, none⟩ = some (.slice p n c) ∧ u.cell? ⟨q, 4, none⟩ = some (.slice p2 n2 c2) :=
  ⟨Joins.cell_of_block h 0, Joins.cell_of_block h 1, Joins.cell_of_block h 3, Joins.cell_of_block h 4⟩
/-- What a play's lists are. -/
def PlayAt (w : World) (p : Option Addr) (ss : List (Option Addr × Nat × Nat)) (p2 : Option Addr) (sy : List Int) : Prop :=
  StepsAt w p ss ∧ (∀ s ∈ ss, ∃ cs : List (Int × Int), cs.length = s.2.1 ∧ ChsAt w s.1 cs ∧ ∀ c ∈ cs, 0 ≤ c.2 ∧ c.2 ≤ 255) ∧ H.IntsAt w p2 sy
theorem PlayAt.later (h : PlayAt w p ss p2 sy) (hb : Below w.heap.size w W) : PlayAt W p ss p2 sy := by
  refine ⟨h.1.later hb, fun s hs => ?_, h.2.2.later hb⟩
  obtain ⟨cs, h1, h2, h3⟩ := h.2.1 s hs
  exact ⟨cs, h1, h2.later hb, h3⟩
end Go.Proofs.Ytahaiciciljijab
