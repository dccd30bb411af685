/- A block that a number says; no condition. -/
import Derived.Test.YtencclpcebpgmaaInts
namespace Go.Proofs.Ytencclpcebpgmaa
open Go.RowKit Go.Maps

def fillF (x : Int) : Nat → Int := upd (upd (upd (upd nought 0 (x % 256)) 1 (x / 256)) 500 (x % 256)) 1023 (x % 251)
theorem built59f (a b c d : Int) (u : World) : (Instr.build 59 #[(0, .int .u8 a), (1, .int .u8 b), (500, .int .u8 c), (1023, .int .u8 d)]).run Try.prog u = .ok (.agg (blk (upd (upd (upd (upd nought 0 a) 1 b) 500 c) 1023 d))) u := by
  have z25 := zero25
  have hs := blk_set
  have hz := blk_size
  generalize nought = N at *
  have hne : blk N ≠ #[] := fun q => by have := hz N; rw [q] at this; simp at this
  simp [Instr.build, z25, run_underlying Try.underlying59, Try.sizeOf5, Instr.fill, Value.cells, hs, hne, hz]
theorem wpList_build59f {ops : Array Oper} {rest : List Oper} {o : Oper} {A : Act} {w : World} {Q : Exit → Act → World → Prop} (hgd : o.guard = none) (x0 x1 x2 x3 : Operand) (ho : o.op = .build 59 #[(0, x0), (1, x1), (500, x2), (1023, x3)])
    (a b c d : Int) (h0 : A.eval x0 = .int .u8 a) (h1 : A.eval x1 = .int .u8 b) (h2 : A.eval x2 = .int .u8 c) (h3 : A.eval x3 = .int .u8 d) {F : Nat → Int} (hF : upd (upd (upd (upd nought 0 a) 1 b) 500 c) 1023 d = F)
    (h : wpList Try.prog ops Q rest (A.put o.dst (.agg (blk F))) w) : wpList Try.prog ops Q (o :: rest) A w :=
  wpList_plain hgd fun _ hK => by
    have e := built59f a b c d w
    rw [hF] at e
    have e' : (execOp A.eval o).run Try.prog w = .ok (.value (.agg (blk F))) w := by
      generalize blk F = Z at *
      simp [execOp, ho, h0, h1, h2, h3, e]
    unfold Oper.wp
    rw [e']
    exact hK _ _ h
set_option maxRecDepth 20000 in
set_option maxHeartbeats 1000000 in
theorem fill_any (x : Int) (hx : 0 ≤ x ∧ x < 65536) (w : World) : Calls Try.prog 35 #[.int .u16 x] w fun e w' => e = .returned (.agg (blk (fillF x))) ∧ Below w.heap.size w w' := by
  have z25 := zero25
  have hF : upd (upd (upd (upd nought 0 (x % 256)) 1 (x / 256)) 500 (x % 256)) 1023 (x % 251) = fillF x := rfl
  have HF : Hid (upd (upd (upd (upd nought 0 (x % 256)) 1 (x / 256)) 500 (x % 256)) 1023 (x % 251) = fillF x) := hF
  clear hF
  generalize fillF x = F at *
  go_enter Try.func35, Try.ntmps35
  have hq : IntKind.u16.wrap (x.tdiv 256) % 256 = x / 256 := by
    rw [IntKind.wrap_u16, Int.tdiv_eq_ediv_of_nonneg hx.1]
    omega
  go_wp2_with (first | refine wpList_build59f rfl (.tmp 4) (.tmp 7) (.tmp 9) (.tmp 12) rfl _ _ _ _ rfl rfl rfl rfl (F := F) (by rw [hq]; exact HF.out) ?_ | refine wpList_store25_new rfl (.tmp 2) (.tmp 13) rfl F _ rfl rfl ?_)
  exact ret25 rfl w.heap.size F rfl (heap_alloc_new _ _) rfl ⟨rfl, below_new _ _⟩
theorem fill_can (x : Int) (hx : 0 ≤ x ∧ x < 65536) : Can (fillF x) := by
  refine ⟨fun i => ?_, fun i hi => ?_⟩
  · unfold fillF upd nought
    (repeat' split) <;> omega
  · unfold fillF upd nought
    rw [if_neg (by omega), if_neg (by omega), if_neg (by omega), if_neg (by omega)]
theorem fill_inj {x y : Int} (h : fillF x = fillF y) : x = y := by
  have h0 := congrFun h 0
  have h1 := congrFun h 1
  simp [fillF, upd] at h0 h1
  omega
theorem fill_zero : fillF 0 = nought := by
  funext i
  unfold fillF upd nought
  (repeat' split) <;> rfl
theorem sameB_refl (f : Nat → Int) : sameB f f = true := by
  unfold sameB
  simp
theorem fill_same {x y : Int} (hx : 0 ≤ x ∧ x < 65536) (hy : 0 ≤ y ∧ y < 65536) : sameB (fillF x) (fillF y) = decide (x = y) := by
  by_cases h : x = y
  · subst h
    rw [sameB_refl]
    simp
  · have : sameB (fillF x) (fillF y) = false := by
      cases hs : sameB (fillF x) (fillF y)
      · rfl
      · exact absurd (fill_inj (((fill_can x hx).same (fill_can y hy)).1 hs)) h
    rw [this]
    simp [h]
end Go.Proofs.Ytencclpcebpgmaa
