/- An input that fits: a block of noughts and a question of noughts; for every law of a block and a question. -/
import Derived.Test.YtplgelhfombhkaaOpen
import Derived.ProofKit
import Derived.ChangeOld
namespace Go.Proofs.Ytplgelhfombhkaa
open Go.RowKit Go.ChangeShapes Go.WideShapes

def wArgs : Array Value := #[.agg (blk nought), .agg (askV 0 0 false 0 0 0)]
theorem types23 : Try.prog.cellTypes Try.prog.depth 23 = some (List.replicate 1024 5) := by kernel_rfl
theorem okWide_nought (w : World) (base : Nat) : Value.okWide Try.prog w .any base 23 (.agg (blk nought)) := by
  unfold Value.okWide
  rw [Try.underlying23]
  refine ⟨_, rfl, by rw [blk_size, cells23], List.replicate 1024 5, types23, ⟨1, by rw [blk_size, List.length_replicate]⟩, fun i v hv => ?_⟩
  have hi : i < 1024 := by
    have := (Array.getElem?_eq_some_iff.1 hv).1
    rwa [blk_size] at this
  rw [blk_get _ _ hi] at hv
  obtain rfl := Option.some.inj hv
  refine ⟨5, ?_, Cell.okWide_of_okWideB (by kernel_rfl)⟩
  rw [List.length_replicate, List.getElem?_replicate, if_pos (Nat.mod_lt _ (by omega))]
theorem okWide_ask (w : World) (base : Nat) : Value.okWide Try.prog w .any base 25 (.agg (askV 0 0 false 0 0 0)) := Value.okWide_of_okWideB (by kernel_rfl)

section
variable {H : Type} {enc : TypeId × Value → H} {w : World} {base : Nat} {sp : Nat → Bool} {held : Bool}
theorem mapM_same {α β : Type} (g : α → Option β) (c : β) : ∀ l : List α, (∀ x, x ∈ l → g x = some c) → l.mapM g = some (List.replicate l.length c)
  | [], _ => rfl
  | x :: l, h => by
    rw [List.mapM_cons, h x (by simp), mapM_same g c l fun y hy => h y (by simp [hy])]
    rfl
def noughtD : DataW H := .agg (List.replicate 1024 (.lit (.int .u8 0)))
def askD : DataW H := .agg [.lit (.int .i64 0), .lit (.int .i64 0), .lit (.bool false), .lit (.int .i64 0), .lit (.int .i64 0), .lit (.int .i64 0)]
theorem trod_nought : DataW.Trod enc Try.prog w base sp held 23 (.agg (blk nought)) noughtD [] := by
  refine ⟨2, ?_⟩
  have hm : (List.range 1024).mapM (fun i => DataW.trod enc Try.prog w base sp held 1 5 ((((Value.agg (blk nought)).cells.toList).drop (i * Try.prog.cellsOf 5)).take (Try.prog.cellsOf 5))) = some (List.replicate (List.range 1024).length ((.lit (.int .u8 0) : DataW H), ([] : List MemPlace))) := by
    refine mapM_same _ _ _ fun i hi => ?_
    have hi' := List.mem_range.1 hi
    have e : (((Value.agg (blk nought)).cells.toList).drop (i * Try.prog.cellsOf 5)).take (Try.prog.cellsOf 5) = [.int .u8 0] := by
      rw [cells5, Nat.mul_one]
      show ((blk nought).toList.drop i).take 1 = _
      have hg := blk_get nought i hi'
      rw [← Array.getElem?_toList] at hg
      rw [List.take_one, List.head?_drop, hg]
      rfl
    rw [e]
    unfold DataW.trod
    rw [Try.underlying5]
    simp [Lit.wf]
    decide
  have hl : (Value.agg (blk nought)).cells.toList.length = Try.prog.cellsOf 23 := by
    rw [cells23]
    show (blk nought).toList.length = 1024
    rw [Array.length_toList, blk_size]
  have : DataW.trod enc Try.prog w base sp held (1 + 1) 23 (Value.agg (blk nought)).cells.toList = some (.agg ((List.replicate (List.range 1024).length ((.lit (.int .u8 0) : DataW H), ([] : List MemPlace))).map (·.1)), (List.replicate (List.range 1024).length ((.lit (.int .u8 0) : DataW H), ([] : List MemPlace))).flatMap (·.2)) := by
    generalize (Value.agg (blk nought)).cells.toList = cs at hm hl
    generalize (List.replicate (List.range 1024).length ((.lit (.int .u8 0) : DataW H), ([] : List MemPlace))) = xs at hm
    unfold DataW.trod
    rw [Try.underlying23]
    generalize Try.prog.cellsOf 23 = n23 at hl
    split <;> simp_all
  rw [this, List.length_range]
  have hz : ∀ n, (List.replicate n ((.lit (.int .u8 0) : DataW H), ([] : List MemPlace))).flatMap (·.2) = [] := by
    intro n
    induction n with
    | zero => rfl
    | succ n ih => rw [List.replicate_succ, List.flatMap_cons, ih]; rfl
  rw [hz, List.map_replicate]
  rfl
theorem trod_ask : DataW.Trod enc Try.prog w base sp held 25 (.agg (askV 0 0 false 0 0 0)) askD [] := ⟨2, by kernel_rfl⟩
theorem weights_nought (n : Nat) : DataW.weightsAll Try.prog 5 (List.replicate n (.lit (.int .u8 0) : DataW H)) = [] := by
  induction n with
  | zero => rfl
  | succ n ih => rw [List.replicate_succ, DataW.weightsAll, ih]; rfl
theorem weights_both : (DataW.weightsEach Try.prog [23, 25] [(noughtD : DataW H), askD]).all (· ≤ reachBytes) = true := by
  have h0 : DataW.weights Try.prog 23 (noughtD : DataW H) = [] := by
    unfold noughtD
    rw [DataW.weights, Try.underlying23]
    exact weights_nought 1024
  rw [DataW.weightsEach, h0]
  first | rfl | decide
theorem whole_both : DataW.Whole enc Try.prog [23, 25] [] false w [.agg (blk nought), .agg (askV 0 0 false 0 0 0)] [noughtD, askD] [] [] :=
  ⟨[], [], ⟨[], [], trod_nought, ⟨[], [], trod_ask, rfl, rfl⟩, rfl⟩, rfl, rfl, by simp [World.noneFrozen], fun h => by cases h⟩
end
theorem wit_any {H : Type} (enc : TypeId × Value → H) (os : Os) (f : FuncId) (fn : Func) (s : ChangeSpec) (hfn : Try.prog.funcs[f]? = some fn) (hi : Try.prog.inits.idxOf? f = none) (hb : fn.body.isSome = true) (ho : fn.ours = false) (hn : fn.nfree = 0) (hp : fn.params = #[23, 25]) (hs : s.vars = []) (hvt : s.plain.varTypes Try.prog = []) :
    ∃ (w : World) (tape : Tape) (i : Input), w.os = os ∧ (w.forCall tape i).Shaped Try.checked.prog ∧ i.vars = [] ∧ Input.okWide Try.checked.prog (w.forCall tape i) .any w.heap.size f i ∧
      s.pre6 enc Try.checked.prog fn [] false (w.forCall tape i).memory i.args ∧ ({} : Assume).holds Try.checked.prog (lone (Frame.enter Try.checked.prog f i.args .normal) [] (w.forCall tape i)) := by
  refine ⟨World.holding Try.prog os ⟨#[], wArgs, []⟩, fun _ _ => 0, ⟨#[], wArgs, []⟩, rfl, World.shaped_of_B (P := Try.prog) (by kernel_rfl) (by kernel_rfl), rfl, ⟨by simp, by simp, hi, fn, hfn, hb, ho, hn, by rw [hp]; rfl, ?_⟩, ⟨⟨[noughtD, askD], [], [], ?_, rfl⟩, ⟨by kernel_rfl, [noughtD, askD], [], [], ?_, ?_⟩⟩, ?_⟩
  · intro j t v hj hv
    rw [hp] at hj
    match j with
    | 0 =>
      obtain rfl := Option.some.inj hj
      obtain rfl := Option.some.inj hv
      exact okWide_nought _ _
    | 1 =>
      obtain rfl := Option.some.inj hj
      obtain rfl := Option.some.inj hv
      exact okWide_ask _ _
    | j + 2 => simp at hj
  · rw [hp, hs]; exact whole_both
  · rw [hp]; show DataW.Whole enc Try.prog [23, 25] s.vars false _ _ _ _ _; rw [hs]; exact whole_both
  · rw [hp]
    show (DataW.weightsEach Try.prog ([23, 25] ++ s.plain.varTypes Try.prog) _).all _ = true
    rw [hvt]; exact weights_both
  · simp only [Assume.holds]
    exact ⟨by simp, by simp, fun _ => Modest.zero, by simp, by simp⟩
end Go.Proofs.Ytplgelhfombhkaa
