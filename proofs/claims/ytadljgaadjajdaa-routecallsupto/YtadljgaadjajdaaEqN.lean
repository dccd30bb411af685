/- Rows of bytes held against each other: equal just where every byte is; of any length. -/
import Derived.Test.YtadljgaadjajdaaRowN
namespace Go.Proofs.Ytadljgaadjajdaa
open Go.RowKit Go.Maps
def sameN (m : Nat) (f g : Nat → Int) : Bool := (List.range m).all fun i => f i == g i
theorem sameN_iff (m : Nat) (f g : Nat → Int) : sameN m f g = true ↔ ∀ i, i < m → f i = g i := by
  simp [sameN, List.all_eq_true, List.mem_range]
theorem sameN_self (m : Nat) (f : Nat → Int) : sameN m f f = true := (sameN_iff m f f).2 fun _ _ => rfl
theorem part5 (f : Nat → Int) (m i : Nat) (hi : i < m) (w : World) : (part 5 (rowN .u8 f m) (i * 1)).run Try.prog w = .ok (.int .u8 (f i)) w := by
  have hb := rowN_get .u8 f m i hi
  simp [part, Try.isAgg5, hb]
theorem eachN (d m : Nat) (f g : Nat → Int) (w : World) : ∀ l : List Nat, (∀ i, i ∈ l → i < m) →
    (forIn (m := Sem) l ((none : Option Bool), ()) fun i _ => do
            let x ← part 5 (rowN .u8 f m) (i * 1)
            let y ← part 5 (rowN .u8 g m) (i * 1)
            let b ← Op.equalIn (d + 1) 5 x y
            if (!b) = true then pure (ForInStep.done (some false, ())) else pure (ForInStep.yield (none, ()))).run Try.prog w
      = .ok ((if l.all (fun i => f i == g i) then none else some false), ()) w
  | [], _ => by simp
  | i :: l, h => by
    have h1 := part5 f m i (h i (by simp)) w
    have h2 := part5 g m i (h i (by simp)) w
    have ih := eachN d m f g w l fun j hj => h j (by simp [hj])
    have he := run_equalIn_int (P := Try.prog) w d 5 .u8 .u8 (f i) (g i) Try.underlying5
    simp only [List.forIn_cons, Sem.run_bind, h1, h2, he, Result.andThen_ok, List.all_cons]
    by_cases e : f i = g i
    · simp only [e, beq_self_eq_true, Bool.not_true, Bool.false_eq_true, if_false, Sem.run_pure, Result.andThen_ok, Bool.true_and]
      exact ih
    · have e' : (f i == g i) = false := by simp [e]
      simp [e']
theorem eqIn (d : Nat) {t : TypeId} {m : Nat} (hu : Try.prog.underlying t = some (.array m 5)) (f g : Nat → Int) (w : World) : (Op.equalIn (d + 1 + 1) t (.agg (rowN .u8 f m)) (.agg (rowN .u8 g m))).run Try.prog w = .ok (sameN m f g) w := by
  have key := eachN d m f g w (List.range' 0 [:m].size) (fun i hi => by simpa [Std.Legacy.Range.size] using hi)
  rw [Op.equalIn]
  simp only [Sem.run_bind, run_underlying hu, Result.andThen_ok]
  rw [show (sizeOf 5).run Try.prog w = .ok 1 w by simp [go_sem]]
  simp only [Result.andThen_ok, Std.Legacy.Range.forIn_eq_forIn_range']
  refine (congrArg (fun r => Result.andThen r _) key).trans ?_
  have hr : List.range' 0 [:m].size = List.range m := by simp [Std.Legacy.Range.size, List.range_eq_range']
  rw [hr]
  show Result.andThen (Result.ok ((if sameN m f g = true then none else some false), ()) w) _ = _
  cases sameN m f g <;> simp
section
variable {ops : Array Oper} {rest : List Oper} {o : Oper} {a : Act} {w : World} {Q : Exit → Act → World → Prop}
theorem exec_mv {x : Operand} {v : Value} {W : World} (ho : o.op = .move x) (hx : a.eval x = v) : (execOp a.eval o).run Try.prog W = .ok (.value v) W := by simp [execOp, ho, hx]
theorem exec_eqN {t t' : TypeId} {m : Nat} {W : World} (hu : Try.prog.underlying t = some (.array m 5)) (hG : Try.prog.eqGuardType Try.prog.depth t = false) (x y : Operand) (ho : o.op = .binOp .eql t x y t') (f g : Nat → Int) (b : Bool) (hx : a.eval x = .agg (rowN .u8 f m)) (hy : a.eval y = .agg (rowN .u8 g m)) (hb : sameN m f g = b) : (execOp a.eval o).run Try.prog W = .ok (.value (.bool b)) W := by
  have e : (binOp .eql t (.agg (rowN .u8 f m)) (.agg (rowN .u8 g m))).run Try.prog W = .ok (.bool b) W := by
    have h := eqIn 9998 hu f g W
    rw [hb] at h
    generalize rowN .u8 f m = F at *
    generalize rowN .u8 g m = G at *
    simp only [binOp, Op.equal, Op.maxDepth, Sem.run_bind, h, Result.andThen_ok, Sem.run_pure]
  unfold execOp
  simp only [ho, hx, hy, Sem.run_bind, run_eqGuard_agg W _ t _ _ _ _ hG, e, Result.andThen_ok, Sem.run_pure]
theorem exec_neN {t t' : TypeId} {m : Nat} {W : World} (hu : Try.prog.underlying t = some (.array m 5)) (hG : Try.prog.eqGuardType Try.prog.depth t = false) (x y : Operand) (ho : o.op = .binOp .neq t x y t') (f g : Nat → Int) (b : Bool) (hx : a.eval x = .agg (rowN .u8 f m)) (hy : a.eval y = .agg (rowN .u8 g m)) (hb : sameN m f g = b) : (execOp a.eval o).run Try.prog W = .ok (.value (.bool (!b))) W := by
  have e : (binOp .neq t (.agg (rowN .u8 f m)) (.agg (rowN .u8 g m))).run Try.prog W = .ok (.bool (!b)) W := by
    have h := eqIn 9998 hu f g W
    rw [hb] at h
    generalize rowN .u8 f m = F at *
    generalize rowN .u8 g m = G at *
    simp only [binOp, Op.equal, Op.maxDepth, Sem.run_bind, h, Result.andThen_ok, Sem.run_pure]
  unfold execOp
  simp only [ho, hx, hy, Sem.run_bind, run_eqGuard_agg W _ t _ _ _ _ hG, e, Result.andThen_ok, Sem.run_pure]
theorem wpList_eqN {t t' : TypeId} {m : Nat} (hu : Try.prog.underlying t = some (.array m 5)) (hG : Try.prog.eqGuardType Try.prog.depth t = false) (hw : Region.wanted o (yielded ops a.tmps) = true) (x y : Operand) (ho : o.op = .binOp .eql t x y t') (f g : Nat → Int) (b : Bool) (hx : a.eval x = .agg (rowN .u8 f m)) (hy : a.eval y = .agg (rowN .u8 g m)) (hb : sameN m f g = b)
    (h : wpList Try.prog ops Q rest (a.put o.dst (.bool b)) w) : wpList Try.prog ops Q (o :: rest) a w :=
  BigFrame.wpList_want hw fun _ hK => by
    have e : (binOp .eql t (.agg (rowN .u8 f m)) (.agg (rowN .u8 g m))).run Try.prog w = .ok (.bool b) w := by
      have h := eqIn 9998 hu f g w
      rw [hb] at h
      generalize rowN .u8 f m = F at *
      generalize rowN .u8 g m = G at *
      simp only [binOp, Op.equal, Op.maxDepth, Sem.run_bind, h, Result.andThen_ok, Sem.run_pure]
    unfold Oper.wp execOp
    simp only [ho, hx, hy, Sem.run_bind, run_eqGuard_agg w _ t _ _ _ _ hG, e, Result.andThen_ok, Sem.run_pure]
    exact hK _ _ h
theorem wpList_neN {t t' : TypeId} {m : Nat} (hu : Try.prog.underlying t = some (.array m 5)) (hG : Try.prog.eqGuardType Try.prog.depth t = false) (hw : Region.wanted o (yielded ops a.tmps) = true) (x y : Operand) (ho : o.op = .binOp .neq t x y t') (f g : Nat → Int) (b : Bool) (hx : a.eval x = .agg (rowN .u8 f m)) (hy : a.eval y = .agg (rowN .u8 g m)) (hb : sameN m f g = b)
    (h : wpList Try.prog ops Q rest (a.put o.dst (.bool (!b))) w) : wpList Try.prog ops Q (o :: rest) a w :=
  BigFrame.wpList_want hw fun _ hK => by
    have e : (binOp .neq t (.agg (rowN .u8 f m)) (.agg (rowN .u8 g m))).run Try.prog w = .ok (.bool (!b)) w := by
      have h := eqIn 9998 hu f g w
      rw [hb] at h
      generalize rowN .u8 f m = F at *
      generalize rowN .u8 g m = G at *
      simp only [binOp, Op.equal, Op.maxDepth, Sem.run_bind, h, Result.andThen_ok, Sem.run_pure]
    unfold Oper.wp execOp
    simp only [ho, hx, hy, Sem.run_bind, run_eqGuard_agg w _ t _ _ _ _ hG, e, Result.andThen_ok, Sem.run_pure]
    exact hK _ _ h
/-- The row of noughts is made. -/
theorem wpList_zeroN {t : TypeId} {m : Nat} (hu : Try.prog.underlying t = some (.array m 5)) (hz : ∀ w, (zeroValue t).run Try.prog w = .ok (.agg (rowN .u8 nought m)) w) (hw : Region.wanted o (yielded ops a.tmps) = true) (ho : o.op = .build t #[])
    (h : wpList Try.prog ops Q rest (a.put o.dst (.agg (rowN .u8 nought m))) w) : wpList Try.prog ops Q (o :: rest) a w :=
  BigFrame.wpList_want hw fun _ hK => by
    unfold Oper.wp
    rw [show (execOp a.eval o).run Try.prog w = .ok (.value (.agg (rowN .u8 nought m))) w by
      generalize rowN .u8 nought m = Z at *
      simp [execOp, ho, Instr.build, hz, run_underlying hu, Instr.fill, Value.cells]]
    exact hK _ _ h
end
end Go.Proofs.Ytadljgaadjajdaa
