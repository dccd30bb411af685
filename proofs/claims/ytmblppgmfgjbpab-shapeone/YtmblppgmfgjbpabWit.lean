/- Inputs that fit: blocks of noughts, a geometry of noughts, nought; for every law of blocks, geometries and numbers. -/
import Derived.Test.YtmblppgmfgjbpabOpen
import Derived.ProofKit
import Derived.ChangeOld
namespace Go.Proofs.Ytmblppgmfgjbpab
open Go.RowKit Go.ChangeShapes Go.WideShapes

theorem typesB : Try.prog.cellTypes Try.prog.depth 23 = some (List.replicate 1024 5) := by kernel_rfl
theorem okWide_B (w : World) (base : Nat) : Value.okWide Try.prog w .any base 23 (.agg (blk nought)) := by
  unfold Value.okWide
  rw [Try.underlying23]
  refine ⟨_, rfl, by rw [blk_size, cellsB], List.replicate 1024 5, typesB, ⟨1, by rw [blk_size, List.length_replicate]⟩, fun i v hv => ?_⟩
  have hi : i < 1024 := by
    have := (Array.getElem?_eq_some_iff.1 hv).1
    rwa [blk_size] at this
  rw [blk_get _ _ hi] at hv
  obtain rfl := Option.some.inj hv
  refine ⟨5, ?_, Cell.okWide_of_okWideB (by kernel_rfl)⟩
  rw [List.length_replicate, List.getElem?_replicate, if_pos (Nat.mod_lt _ (by omega))]
theorem okWide_G (w : World) (base : Nat) : Value.okWide Try.prog w .any base 25 (geoV 0 0 0) := Value.okWide_of_okWideB (by kernel_rfl)
theorem okWide_I (w : World) (base : Nat) : Value.okWide Try.prog w .any base 3 (.int .i64 0) := Value.okWide_of_okWideB (by kernel_rfl)

section
variable {H : Type} {enc : TypeId × Value → H} {w : World} {base : Nat} {sp : Nat → Bool} {held : Bool}
theorem mapM_same {α β : Type} (g : α → Option β) (c : β) : ∀ l : List α, (∀ x, x ∈ l → g x = some c) → l.mapM g = some (List.replicate l.length c)
  | [], _ => rfl
  | x :: l, h => by
    rw [List.mapM_cons, h x (by simp), mapM_same g c l fun y hy => h y (by simp [hy])]
    rfl
def datB : DataW H := .agg (List.replicate 1024 (.lit (.int .u8 0)))
def datG : DataW H := .agg [.lit (.int .i64 0), .lit (.int .i64 0), .lit (.int .i64 0)]
def datI : DataW H := .lit (.int .i64 0)
theorem trod_B : DataW.Trod enc Try.prog w base sp held 23 (.agg (blk nought)) datB [] := by
  refine ⟨2, ?_⟩
  have hm : (List.range 1024).mapM (fun i => DataW.trod enc Try.prog w base sp held 1 5 ((((Value.agg (blk nought)).cells.toList).drop (i * Try.prog.cellsOf 5)).take (Try.prog.cellsOf 5))) = some (List.replicate (List.range 1024).length ((.lit (.int .u8 0) : DataW H), ([] : List MemPlace))) := by
    refine mapM_same _ _ _ fun i hi => ?_
    have hi' := List.mem_range.1 hi
    have e : (((Value.agg (blk nought)).cells.toList).drop (i * Try.prog.cellsOf 5)).take (Try.prog.cellsOf 5) = [.int .u8 0] := by
      rw [cells5, Nat.mul_one]
      show ((blk nought).toList.drop i).take 1 = _
      have hg := blk_get nought i hi'
      rw [← Array.getElem?_toList] at hg
      rw [List.take_one, List.head?_drop, hg]
      rfl
    rw [e]
    unfold DataW.trod
    rw [Try.underlying5]
    simp [Lit.wf]
    decide
  have hl : (Value.agg (blk nought)).cells.toList.length = Try.prog.cellsOf 23 := by
    rw [cellsB]
    show (blk nought).toList.length = 1024
    rw [Array.length_toList, blk_size]
  have : DataW.trod enc Try.prog w base sp held (1 + 1) 23 (Value.agg (blk nought)).cells.toList = some (.agg ((List.replicate (List.range 1024).length ((.lit (.int .u8 0) : DataW H), ([] : List MemPlace))).map (·.1)), (List.replicate (List.range 1024).length ((.lit (.int .u8 0) : DataW H), ([] : List MemPlace))).flatMap (·.2)) := by
    generalize (Value.agg (blk nought)).cells.toList = cs at hm hl
    generalize (List.replicate (List.range 1024).length ((.lit (.int .u8 0) : DataW H), ([] : List MemPlace))) = xs at hm
    unfold DataW.trod
    rw [Try.underlying23]
    generalize Try.prog.cellsOf 23 = nB at hl
    split <;> simp_all
  rw [this, List.length_range]
  have hz : ∀ n, (List.replicate n ((.lit (.int .u8 0) : DataW H), ([] : List MemPlace))).flatMap (·.2) = [] := by
    intro n
    induction n with
    | zero => rfl
    | succ n ih => rw [List.replicate_succ, List.flatMap_cons, ih]; rfl
  rw [hz, List.map_replicate]
  rfl
theorem trod_G : DataW.Trod enc Try.prog w base sp held 25 (geoV 0 0 0) datG [] := ⟨2, by kernel_rfl⟩
theorem trod_I : DataW.Trod enc Try.prog w base sp held 3 (.int .i64 0) datI [] := ⟨2, by kernel_rfl⟩
theorem weights_nought (n : Nat) : DataW.weightsAll Try.prog 5 (List.replicate n (.lit (.int .u8 0) : DataW H)) = [] := by
  induction n with
  | zero => rfl
  | succ n ih => rw [List.replicate_succ, DataW.weightsAll, ih]; rfl
theorem weights_B : DataW.weights Try.prog 23 (datB : DataW H) = [] := by
  unfold datB
  rw [DataW.weights, Try.underlying23]
  exact weights_nought 1024
theorem weights_G : DataW.weights Try.prog 25 (datG : DataW H) = [] := by kernel_rfl
theorem weights_I : DataW.weights Try.prog 3 (datI : DataW H) = [] := by kernel_rfl
end

section
variable {H : Type} {enc : TypeId × Value → H} {w : World}
theorem weights_BB : (DataW.weightsEach Try.prog [23, 23] [(datB : DataW H), datB]).all (· ≤ reachBytes) = true := by
  rw [DataW.weightsEach, weights_B, DataW.weightsEach, weights_B]
  rfl
theorem whole_BB : DataW.Whole enc Try.prog [23, 23] [] false w [.agg (blk nought), .agg (blk nought)] [datB, datB] [] [] :=
  ⟨[], [], ⟨[], [], trod_B, ⟨[], [], trod_B, rfl, rfl⟩, rfl⟩, rfl, rfl, by simp [World.noneFrozen], fun h => by cases h⟩
end
theorem wit_BB {H : Type} (enc : TypeId × Value → H) (os : Os) (f : FuncId) (fn : Func) (s : ChangeSpec) (hfn : Try.prog.funcs[f]? = some fn) (hi : Try.prog.inits.idxOf? f = none) (hb : fn.body.isSome = true) (ho : fn.ours = false) (hn : fn.nfree = 0) (hp : fn.params = #[23, 23]) (hs : s.vars = []) (hvt : s.plain.varTypes Try.prog = []) :
    ∃ (w : World) (tape : Tape) (i : Input), w.os = os ∧ (w.forCall tape i).Shaped Try.checked.prog ∧ i.vars = [] ∧ Input.okWide Try.checked.prog (w.forCall tape i) .any w.heap.size f i ∧
      s.pre6 enc Try.checked.prog fn [] false (w.forCall tape i).memory i.args ∧ ({} : Assume).holds Try.checked.prog (lone (Frame.enter Try.checked.prog f i.args .normal) [] (w.forCall tape i)) := by
  refine ⟨World.holding Try.prog os ⟨#[], #[.agg (blk nought), .agg (blk nought)], []⟩, fun _ _ => 0, ⟨#[], #[.agg (blk nought), .agg (blk nought)], []⟩, rfl, World.shaped_of_B (P := Try.prog) (by kernel_rfl) (by kernel_rfl), rfl, ⟨by simp, by simp, hi, fn, hfn, hb, ho, hn, by rw [hp]; rfl, ?_⟩, ⟨⟨[datB, datB], [], [], ?_, rfl⟩, ⟨by kernel_rfl, [datB, datB], [], [], ?_, ?_⟩⟩, ?_⟩
  · intro j t v hj hv
    rw [hp] at hj
    match j with
    | 0 =>
      obtain rfl := Option.some.inj hj
      obtain rfl := Option.some.inj hv
      exact okWide_B _ _
    | 1 =>
      obtain rfl := Option.some.inj hj
      obtain rfl := Option.some.inj hv
      exact okWide_B _ _
    | j + 2 => simp at hj
  · rw [hp, hs]; exact whole_BB
  · rw [hp]; show DataW.Whole enc Try.prog [23, 23] s.vars false _ _ _ _ _; rw [hs]; exact whole_BB
  · rw [hp]
    show (DataW.weightsEach Try.prog ([23, 23] ++ s.plain.varTypes Try.prog) _).all _ = true
    rw [hvt]; exact weights_BB
  · simp only [Assume.holds]
    exact ⟨by simp, by simp, fun _ => Modest.zero, by simp, by simp⟩
end Go.Proofs.Ytmblppgmfgjbpab
