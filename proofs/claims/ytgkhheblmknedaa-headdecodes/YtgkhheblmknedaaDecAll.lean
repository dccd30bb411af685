/- Decode of head on a layout that is: what it answers of any block. -/
import Derived.Test.YtgkhheblmknedaaOwn
import Derived.Test.YtgkhheblmknedaaPlan
namespace Go.Proofs.Ytgkhheblmknedaa
open Go.RowKit
/-- What Decode answers: the targets and the error. -/
def decL (lo hi m : Int) (F : Nat → Int) : List Int := if numN F 0 4 ≤ m ∧ mayB lo hi m (tgts F (numN F 0 4).toNat) = true then tgts F (numN F 0 4).toNat else []
def decN (lo hi m : Int) (F : Nat → Int) : Int := if numN F 0 4 ≤ m ∧ mayB lo hi m (tgts F (numN F 0 4).toNat) = true then 0 else 4
theorem dec_may {lo hi m : Int} {F : Nat → Int} : (decN lo hi m F = 4 ∧ decL lo hi m F = []) ∨ (decN lo hi m F = 0 ∧ MayP lo hi m (decL lo hi m F)) := by
  unfold decN decL
  by_cases h : numN F 0 4 ≤ m ∧ mayB lo hi m (tgts F (numN F 0 4).toNat) = true
  · rw [if_pos h, if_pos h]
    exact .inr ⟨rfl, of_decide_eq_true h.2⟩
  · rw [if_neg h, if_neg h]
    exact .inl ⟨rfl, rfl⟩
theorem decL_u {lo hi m : Int} {F : Nat → Int} (hF : ∀ i, 0 ≤ F i ∧ F i ≤ 255) : AllU (decL lo hi m F) := by
  unfold decL
  split
  · exact tgts_u F hF _
  · exact fun x hx => by cases hx
theorem dec_all (b l i a c d e f g : Int) (F : Nat → Int) (w : World) (hb : I64 b) (hs : standsB b l i a c d e f g = true) (hl : 32 ≤ l ∧ l ≤ 256) (hF : ∀ i, 0 ≤ F i ∧ F i ≤ 255) :
    Calls Try.prog 16 #[.agg (lay9 b l i a c d e f g), .agg (blk F)] w fun e' w' => ∃ p, e' = .returned (.tuple #[.agg #[.slice p (decL c b (l - 1) F).length (decL c b (l - 1) F).length], .int .i64 (decN c b (l - 1) F)]) ∧
      (p = none ∧ decL c b (l - 1) F = [] ∨ ∃ q, p = some ⟨q, 0, none⟩ ∧ w.heap.size ≤ q ∧ w'.heap[q]? = some (.cells (listRow (decL c b (l - 1) F)) 3)) ∧ Below w.heap.size w w' := by
  have h0 := numN_bd F hF 4 0
  by_cases h1 : numN F 0 4 ≤ l - 1
  · have hN : numN F 0 4 = ((numN F 0 4).toNat : Int) := by omega
    by_cases h2 : mayB c b (l - 1) (tgts F (numN F 0 4).toNat) = true
    · unfold decL decN
      rw [if_pos ⟨h1, h2⟩, if_pos ⟨h1, h2⟩, tgts_len]
      refine (dec_ok b l i a c d e f g F _ w hb hs hl hF hN (by omega) h2).mono ?_
      rintro e' W ⟨q, rfl, hq, hr, hB⟩
      exact ⟨_, rfl, .inr ⟨q, rfl, hq, hr⟩, hB⟩
    · unfold decL decN
      rw [if_neg (fun q => h2 q.2), if_neg (fun q => h2 q.2)]
      refine (dec_bad b l i a c d e f g F _ w hb hs hl hF hN (by omega) (by simpa using h2)).mono ?_
      rintro e' W ⟨rfl, hB⟩
      exact ⟨none, rfl, .inl ⟨rfl, rfl⟩, hB⟩
  · unfold decL decN
    rw [if_neg (fun q => h1 q.1), if_neg (fun q => h1 q.1)]
    refine (dec_more b l i a c d e f g F w hb hs hl hF (by omega)).mono ?_
    rintro e' W ⟨rfl, hB⟩
    exact ⟨none, rfl, .inl ⟨rfl, rfl⟩, hB⟩
theorem dec_ints {W : World} {B : Nat} {p : Option Addr} {T : List Int} (h : p = none ∧ T = [] ∨ ∃ q, p = some ⟨q, 0, none⟩ ∧ B ≤ q ∧ W.heap[q]? = some (.cells (listRow T) 3)) : IntsAt W p T := by
  rcases h with ⟨rfl, rfl⟩ | ⟨q, rfl, _, h⟩
  · exact fun h => by simp at h
  · exact listRow_at h
section
variable {ops : Array Oper} {o : Oper} {a : Act} {w : World}
theorem zero35 (w : World) : (zeroValue 35).run Try.prog w = .ok (.agg #[.slice none 0 0]) w := by kernel_rfl
theorem exec_allocH (ho : o.op = .alloc 35) : (execOp a.eval o).run Try.prog w = .ok (.value (.pointer (some ⟨w.heap.size, 0, none⟩))) (w.alloc (.cells #[.slice none 0 0] 35)) := by
  have z := zero35
  unfold execOp
  simp [ho, go_sem, z]
theorem exec_storeH {x y : Operand} (ho : o.op = .store 35 x y) (g : Nat) (v v0 : Value) (hv : v.oneCell' = true) (hx : a.eval x = .pointer (some ⟨g, 0, none⟩)) (hy : a.eval y = .agg #[v]) (hg : w.heap[g]? = some (.cells #[v0] 35)) :
    (execOp a.eval o).run Try.prog w = .ok .skip (w.setRow g #[v]) := by
  unfold execOp
  simp only [ho, hx, hy, Instr.storeAt, Instr.sureAddr, Sem.run_bind, Sem.run_pure, Result.andThen_ok, run_storeVar_row w g 35 35 #[v0] #[v] hg size35H rfl (by simp [hv])]
end
end Go.Proofs.Ytgkhheblmknedaa
