/- A commit; no condition but that numbers do not pass their greatest. -/
import Derived.Test.YtglcliokhlafoaaLToLog2
namespace Go.Proofs.Ytglcliokhlafoaa
open Go.RowKit Go.Maps
variable {w W : World} {g d c mb : Nat} {v : Value} {x : LSt} {s : CSt} {t : St} {os ks : List (Nat × Obj)} {base : Nat} {book : Int → Nat → Int}
theorem headF_can {ts : List Int} (h : ts.length ≤ 255) : Can (H.headF ts) := by
  refine ⟨fun i => H.wordF_byte _ i, fun i hi => ?_⟩
  unfold H.headF H.wordF
  have : ((ts.length : Int) :: ts).getD (i / 4) 0 = 0 := by
    rw [List.getD_eq_getElem?_getD, List.getElem?_eq_none (by simp; omega)]
    rfl
  rw [this]
  simp
theorem wpStill_loadLay {ops : Array Oper} {Q : Act → Prop} {a : Act} {o : Oper} {rest : List Oper} {u : World} (hgd : o.guard = none) (y : Operand) (ho : o.op = .load 30 y) (hx : a.eval y = .pointer (some ⟨g, 3, none⟩)) (hg : u.heap[g]? = some (.cells (lgRow g d c mb v x) 86))
    (h : wpStill Try.prog ops u Q rest (a.put o.dst (.agg (layA x.b x.l x.i)))) : wpStill Try.prog ops u Q (o :: rest) a := by
  unfold wpStill
  rw [if_pos (by simp [Region.wanted, hgd])]
  unfold Oper.still execOp
  simp only [ho, hx, Instr.loadAt, Instr.sureAddr, loadLay hg, Sem.run_bind, Result.andThen_ok, Sem.run_pure, Oper.stillUpon]
  exact ⟨trivial, h⟩
theorem wpStill_buildB {ops : Array Oper} {Q : Act → Prop} {a : Act} {o : Oper} {rest : List Oper} {u : World} (hgd : o.guard = none) (ho : o.op = .build 46 #[])
    (h : wpStill Try.prog ops u Q rest (a.put o.dst (.agg (blk nought)))) : wpStill Try.prog ops u Q (o :: rest) a := by
  have hb := built58 u
  unfold wpStill
  rw [if_pos (by simp [Region.wanted, hgd])]
  unfold Oper.still execOp
  generalize blk nought = Z at *
  simp only [ho, Array.map_empty, Sem.run_bind]
  simp only [hb, Result.andThen_ok, Sem.run_pure, Oper.stillUpon]
  exact ⟨trivial, h⟩
/-- What a commit does to the disk. -/
def opsA (x : LSt) (book : Int → Nat → Int) : List (Option Cel) := lgOps book x.blocks x.blocks.length ++ [none]
def opsB (x : LSt) : List (Option Cel) := [some (1, H.headF x.blocks), none]
def opsC (x : LSt) (book : Int → Nat → Int) : List (Option Cel) := putOps book x.blocks ++ [none]
def opsD : List (Option Cel) := [some (1, nought), none]
def cmtOps (x : LSt) (book : Int → Nat → Int) : List (Option Cel) := opsA x book ++ (opsB x ++ (opsC x book ++ opsD))
theorem cmt_A (h : runE (opsA x book) t ≠ 0) : runE (cmtOps x book) t = runE (opsA x book) t ∧ runV (cmtOps x book) t = runV (opsA x book) t := run_ended h
theorem cmt_B (h : runE (opsA x book) t = 0) : runE (cmtOps x book) t = runE (opsB x ++ (opsC x book ++ opsD)) (runV (opsA x book) t) ∧ runV (cmtOps x book) t = runV (opsB x ++ (opsC x book ++ opsD)) (runV (opsA x book) t) := by
  unfold cmtOps
  rw [runE_append, runV_append, if_pos h, if_pos h]
  exact ⟨rfl, rfl⟩
theorem run_on {a b : List (Option Cel)} (h : runE a t = 0) : runE (a ++ b) t = runE b (runV a t) ∧ runV (a ++ b) t = runV b (runV a t) := by
  rw [runE_append, runV_append, if_pos h, if_pos h]
  exact ⟨rfl, rfl⟩
theorem opsA_len : (opsA x book).length = x.blocks.length + 1 := by simp [opsA, lgOps_len]
theorem opsC_len : (opsC x book).length = x.blocks.length + 1 := by simp [opsC, putOps_len]
/-- The header's own write turns no data. -/
theorem head_same {b l : Int} {F : Int → Bool} {f : Nat → Int} (h : CInv b l s t book F) (ok : Ok t) (hf : Can f) (he : runE [some (1, f), none] t = 0) (hl : 32 ≤ l) : CInv b l s (runV [some (1, f), none] t) book F := by
  have h1 : writeE t 1 = 0 := by
    by_cases q : writeE t 1 = 0
    · exact q
    · have : runE [some (1, f), none] t = writeE t 1 := by
        show (if writeE t 1 = 0 then _ else writeE t 1) = _
        rw [if_neg q]
      rw [this] at he
      exact he
  have e0 : runE [some (1, f), none] t = barE (writeV t 1 f) := by
    show (if writeE t 1 = 0 then (if barE (writeV t 1 f) = 0 then 0 else barE (writeV t 1 f)) else writeE t 1) = _
    rw [if_pos h1]
    split
    · rename_i q; exact q.symm
    · rfl
  have e1 : runV [some (1, f), none] t = barV (writeV t 1 f) := by
    show (if writeE t 1 = 0 then (if barE (writeV t 1 f) = 0 then barV (writeV t 1 f) else barV (writeV t 1 f)) else writeV t 1 f) = _
    rw [if_pos h1]
    split <;> rfl
  rw [e0] at he
  rw [e1]
  have hr : refV t 1 = 0 ∧ lets t = true := by
    unfold writeE at h1
    split at h1
    · rename_i q
      refine ⟨q, ?_⟩
      cases hq : lets t
      · rw [hq] at h1; simp at h1
      · rfl
    · rename_i q
      exact absurd h1 q
  have hb : barV (writeV t 1 f) = barS (writeV t 1 f) := by
    unfold barE at he
    unfold barV
    split at he
    · omega
    · rename_i q
      rw [if_neg q]
      split at he
      · rename_i q2; rw [if_pos q2]
      · omega
  have hwv : writeV t 1 f = writeS t 1 f := by unfold writeV; rw [if_pos hr.1, hr.2, if_pos rfl]
  have hokw : Ok (writeV t 1 f) := by rw [hwv]; exact writeS_ok ok ⟨(refV_ok hr.1).2.1, (refV_ok hr.1).2.2⟩ hf
  rw [hb]
  refine h.disk ((barS_nums _).2.2.2.2.1.trans (dop_nums t (some (1, f))).2.2.2.2.1) fun j hj => ?_
  rw [cur_bar hokw, cur_write hr.2 hr.1, if_neg fun q => hj.2 ⟨by omega, by omega⟩]
end Go.Proofs.Ytglcliokhlafoaa
