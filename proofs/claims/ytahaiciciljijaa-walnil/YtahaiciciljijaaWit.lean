/- Inputs that fit: blocks of noughts, a geometry of noughts, nought; for every law of blocks, geometries and numbers. -/
import Derived.Test.YtahaiciciljijaaOpen
import Derived.ProofKit
import Derived.ChangeOld
namespace Go.Proofs.Ytahaiciciljijaa
open Go.RowKit Go.ChangeShapes Go.WideShapes

set_option maxRecDepth 100000 in
theorem typesB : Try.prog.cellTypes Try.prog.depth 23 = some (List.replicate 1024 5) := by kernel_rfl
set_option maxRecDepth 100000 in
theorem okWide_B (w : World) (base : Nat) : Value.okWide Try.prog w .any base 23 (.agg (blk nought)) := by
  unfold Value.okWide
  rw [Try.underlying23]
  refine ⟨_, rfl, by rw [blk_size, cellsB], List.replicate 1024 5, typesB, ⟨1, by rw [blk_size, List.length_replicate]⟩, fun i v hv => ?_⟩
  have hi : i < 1024 := by
    have := (Array.getElem?_eq_some_iff.1 hv).1
    rwa [blk_size] at this
  rw [blk_get _ _ hi] at hv
  obtain rfl := Option.some.inj hv
  refine ⟨5, ?_, Cell.okWide_of_okWideB (by kernel_rfl)⟩
  rw [List.length_replicate, List.getElem?_replicate, if_pos (Nat.mod_lt _ (by omega))]
set_option maxRecDepth 100000 in
theorem okWide_G (w : World) (base : Nat) : Value.okWide Try.prog w .any base 25 (H.geoV 0 0 0) := Value.okWide_of_okWideB (by kernel_rfl)
set_option maxRecDepth 100000 in
theorem okWide_I (w : World) (base : Nat) : Value.okWide Try.prog w .any base 3 (.int .i64 0) := Value.okWide_of_okWideB (by kernel_rfl)

section
variable {Hh : Type} {enc : TypeId × Value → Hh} {w : World} {base : Nat} {sp : Nat → Bool} {held : Bool}
set_option maxRecDepth 100000 in
theorem mapM_same {α β : Type} (g : α → Option β) (c : β) : ∀ l : List α, (∀ x, x ∈ l → g x = some c) → l.mapM g = some (List.replicate l.length c)
  | [], _ => rfl
  | x :: l, h => by
    rw [List.mapM_cons, h x (by simp), mapM_same g c l fun y hy => h y (by simp [hy])]
    rfl
def datB : DataW Hh := .agg (List.replicate 1024 (.lit (.int .u8 0)))
def datG : DataW Hh := .agg [.lit (.int .i64 0), .lit (.int .i64 0), .lit (.int .i64 0)]
def datI : DataW Hh := .lit (.int .i64 0)
set_option maxRecDepth 100000 in
theorem trod_B : DataW.Trod enc Try.prog w base sp held 23 (.agg (blk nought)) datB [] := by
  refine ⟨2, ?_⟩
  have hm : (List.range 1024).mapM (fun i => DataW.trod enc Try.prog w base sp held 1 5 ((((Value.agg (blk nought)).cells.toList).drop (i * Try.prog.cellsOf 5)).take (Try.prog.cellsOf 5))) = some (List.replicate (List.range 1024).length ((.lit (.int .u8 0) : DataW Hh), ([] : List MemPlace))) := by
    refine mapM_same _ _ _ fun i hi => ?_
    have hi' := List.mem_range.1 hi
    have e : (((Value.agg (blk nought)).cells.toList).drop (i * Try.prog.cellsOf 5)).take (Try.prog.cellsOf 5) = [.int .u8 0] := by
      rw [cells5, Nat.mul_one]
      show ((blk nought).toList.drop i).take 1 = _
      have hg := blk_get nought i hi'
      rw [← Array.getElem?_toList] at hg
      rw [List.take_one, List.head?_drop, hg]
      rfl
    rw [e]
    unfold DataW.trod
    rw [Try.underlying5]
    simp [Lit.wf]
    decide
  have hl : (Value.agg (blk nought)).cells.toList.length = Try.prog.cellsOf 23 := by
    rw [cellsB]
    show (blk nought).toList.length = 1024
    rw [Array.length_toList, blk_size]
  have : DataW.trod enc Try.prog w base sp held (1 + 1) 23 (Value.agg (blk nought)).cells.toList = some (.agg ((List.replicate (List.range 1024).length ((.lit (.int .u8 0) : DataW Hh), ([] : List MemPlace))).map (·.1)), (List.replicate (List.range 1024).length ((.lit (.int .u8 0) : DataW Hh), ([] : List MemPlace))).flatMap (·.2)) := by
    generalize (Value.agg (blk nought)).cells.toList = cs at hm hl
    generalize (List.replicate (List.range 1024).length ((.lit (.int .u8 0) : DataW Hh), ([] : List MemPlace))) = xs at hm
    unfold DataW.trod
    rw [Try.underlying23]
    generalize Try.prog.cellsOf 23 = nB at hl
    split <;> simp_all
  rw [this, List.length_range]
  have hz : ∀ n, (List.replicate n ((.lit (.int .u8 0) : DataW Hh), ([] : List MemPlace))).flatMap (·.2) = [] := by
    intro n
    induction n with
    | zero => rfl
    | succ n ih => rw [List.replicate_succ, List.flatMap_cons, ih]; rfl
  rw [hz, List.map_replicate]
  rfl
set_option maxRecDepth 100000 in
theorem trod_G : DataW.Trod enc Try.prog w base sp held 25 (H.geoV 0 0 0) datG [] := ⟨2, by kernel_rfl⟩
set_option maxRecDepth 100000 in
theorem trod_I : DataW.Trod enc Try.prog w base sp held 3 (.int .i64 0) datI [] := ⟨2, by kernel_rfl⟩
set_option maxRecDepth 100000 in
theorem weights_nought (n : Nat) : DataW.weightsAll Try.prog 5 (List.replicate n (.lit (.int .u8 0) : DataW Hh)) = [] := by
  induction n with
  | zero => rfl
  | succ n ih => rw [List.replicate_succ, DataW.weightsAll, ih]; rfl
set_option maxRecDepth 100000 in
theorem weights_B : DataW.weights Try.prog 23 (datB : DataW Hh) = [] := by
  unfold datB
  rw [DataW.weights, Try.underlying23]
  exact weights_nought 1024
set_option maxRecDepth 100000 in
theorem weights_G : DataW.weights Try.prog 25 (datG : DataW Hh) = [] := by kernel_rfl
set_option maxRecDepth 100000 in
theorem weights_I : DataW.weights Try.prog 3 (datI : DataW Hh) = [] := by kernel_rfl
end

section
variable {Hh : Type} {enc : TypeId × Value → Hh} {w : World}
set_option maxRecDepth 100000 in
theorem weights_IBG : (DataW.weightsEach Try.prog [3, 23, 25] [(datI : DataW Hh), datB, datG]).all (· ≤ reachBytes) = true := by
  rw [DataW.weightsEach, weights_I, DataW.weightsEach, weights_B, DataW.weightsEach, weights_G]
  rfl
set_option maxRecDepth 100000 in
theorem whole_IBG : DataW.Whole enc Try.prog [3, 23, 25] [] false w [.int .i64 0, .agg (blk nought), H.geoV 0 0 0] [datI, datB, datG] [] [] :=
  ⟨[], [], ⟨[], [], trod_I, ⟨[], [], trod_B, ⟨[], [], trod_G, rfl, rfl⟩, rfl⟩, rfl⟩, rfl, rfl, by simp [World.noneFrozen], fun h => by cases h⟩
end
set_option maxRecDepth 100000 in
theorem wit_IBG {Hh : Type} (enc : TypeId × Value → Hh) (os : Os) (f : FuncId) (fn : Func) (s : ChangeSpec) (hfn : Try.prog.funcs[f]? = some fn) (hi : Try.prog.inits.idxOf? f = none) (hb : fn.body.isSome = true) (ho : fn.ours = false) (hn : fn.nfree = 0) (hp : fn.params = #[3, 23, 25]) (hs : s.vars = []) (hvt : s.plain.varTypes Try.prog = []) :
    ∃ (w : World) (tape : Tape) (i : Input), w.os = os ∧ (w.forCall tape i).Shaped Try.checked.prog ∧ i.vars = [] ∧ Input.okWide Try.checked.prog (w.forCall tape i) .any w.heap.size f i ∧
      s.pre6 enc Try.checked.prog fn [] false (w.forCall tape i).memory i.args ∧ ({} : Assume).holds Try.checked.prog (lone (Frame.enter Try.checked.prog f i.args .normal) [] (w.forCall tape i)) := by
  refine ⟨World.holding Try.prog os ⟨#[], #[.int .i64 0, .agg (blk nought), H.geoV 0 0 0], []⟩, fun _ _ => 0, ⟨#[], #[.int .i64 0, .agg (blk nought), H.geoV 0 0 0], []⟩, rfl, World.shaped_of_B (P := Try.prog) (by kernel_rfl) (by kernel_rfl), rfl, ⟨by simp, by simp, hi, fn, hfn, hb, ho, hn, by rw [hp]; rfl, ?_⟩, ⟨⟨[datI, datB, datG], [], [], ?_, rfl⟩, ⟨by kernel_rfl, [datI, datB, datG], [], [], ?_, ?_⟩⟩, ?_⟩
  · intro j t v hj hv
    rw [hp] at hj
    match j with
    | 0 =>
      obtain rfl := Option.some.inj hj
      obtain rfl := Option.some.inj hv
      exact okWide_I _ _
    | 1 =>
      obtain rfl := Option.some.inj hj
      obtain rfl := Option.some.inj hv
      exact okWide_B _ _
    | 2 =>
      obtain rfl := Option.some.inj hj
      obtain rfl := Option.some.inj hv
      exact okWide_G _ _
    | j + 3 => simp at hj
  · rw [hp, hs]; exact whole_IBG
  · rw [hp]; show DataW.Whole enc Try.prog [3, 23, 25] s.vars false _ _ _ _ _; rw [hs]; exact whole_IBG
  · rw [hp]
    show (DataW.weightsEach Try.prog ([3, 23, 25] ++ s.plain.varTypes Try.prog) _).all _ = true
    rw [hvt]; exact weights_IBG
  · simp only [Assume.holds]
    exact ⟨by simp, by simp, fun _ => Modest.zero, by simp, by simp⟩
end Go.Proofs.Ytahaiciciljijaa
