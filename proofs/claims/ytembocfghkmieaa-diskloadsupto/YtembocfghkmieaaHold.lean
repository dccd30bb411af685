/- A block is held for good; what is pending, and that nothing is; no condition but that the block's number is one of the disk's. -/
import Derived.Test.YtembocfghkmieaaMade
import Derived.StillTailTactics
namespace Go.Proofs.Ytembocfghkmieaa
open Go.RowKit
variable {w : World} {L : Loc} {s : St}

/-- The bytes f lie in memory behind a place. -/
def BlkAt (w : World) (g off : Nat) (f : Nat → Int) : Prop := w.rangeAt g off (blk f).toList
theorem BlkAt.kept {w w' : World} {g off : Nat} {f : Nat → Int} (h : BlkAt w g off f) (hg : w'.heap[g]? = w.heap[g]?) : BlkAt w' g off f := fun j v hv => by
  have := h j v hv
  unfold World.cell? at this ⊢
  simp only at this ⊢
  rw [hg]
  exact this
theorem BlkAt.of {w : World} {g : Nat} {f : Nat → Int} {t : TypeId} (h : w.heap[g]? = some (.cells (blk f) t)) : BlkAt w g 0 f := fun j v hv => by
  rw [cell_of_row w g _ _ t _ h, Nat.zero_add, ← Array.getElem?_toList]
  exact hv
theorem loadM {w : World} {g off : Nat} {f : Nat → Int} (h : BlkAt w g off f) : (Instr.loadAt 58 (.pointer (some ⟨g, off, none⟩))).run Try.prog w = .ok (.agg (blk f)) w := by
  have hr := run_loadAt_mid (P := Try.prog) w g off 58 (blk f).toList _ h Try.underlying58 rfl (by rw [blk_list_len]; exact size25)
  rwa [Array.toArray_toList] at hr
theorem wpList_loadM {ops : Array Oper} {rest : List Oper} {o : Oper} {a : Act} {w : World} {Q : Exit → Act → World → Prop} (hgd : o.guard = none) (x : Operand) (ho : o.op = .load 58 x)
    (g off : Nat) (hx : a.eval x = .pointer (some ⟨g, off, none⟩)) (f : Nat → Int) (hg : BlkAt w g off f)
    (h : wpList Try.prog ops Q rest (a.put o.dst (.agg (blk f))) w) : wpList Try.prog ops Q (o :: rest) a w :=
  wpList_plain hgd fun _ hK => by
    unfold Oper.wp execOp
    simp only [ho, hx, loadM hg, Sem.run_bind, Result.andThen_ok, Sem.run_pure]
    exact hK _ _ h
theorem wpStill_loadM {ops : Array Oper} {Q : Act → Prop} {a : Act} {o : Oper} {rest : List Oper} {w : World} (hgd : o.guard = none) (x : Operand) (ho : o.op = .load 58 x)
    (g off : Nat) (hx : a.eval x = .pointer (some ⟨g, off, none⟩)) (f : Nat → Int) (hg : BlkAt w g off f)
    (h : wpStill Try.prog ops w Q rest (a.put o.dst (.agg (blk f)))) : wpStill Try.prog ops w Q (o :: rest) a := by
  unfold wpStill
  rw [if_pos (by simp [Region.wanted, hgd])]
  unfold Oper.still execOp
  simp only [ho, hx, loadM hg, Sem.run_bind, Result.andThen_ok, Sem.run_pure, Oper.stillUpon]
  exact ⟨trivial, h⟩
theorem built58 (u : World) : (Instr.build 58 #[]).run Try.prog u = .ok (.agg (blk nought)) u := by
  have z25 := zero25
  simp [Instr.build, z25, run_underlying Try.underlying58, Try.sizeOf5, Instr.fill, Value.cells]

theorem wpList_build58 {ops : Array Oper} {rest : List Oper} {o : Oper} {a : Act} {w : World} {Q : Exit → Act → World → Prop} (hgd : o.guard = none) (ho : o.op = .build 58 #[]) {N : Nat → Int}
    (hb : ∀ u, (Instr.build 58 #[]).run Try.prog u = .ok (.agg (blk N)) u) (h : wpList Try.prog ops Q rest (a.put o.dst (.agg (blk N))) w) : wpList Try.prog ops Q (o :: rest) a w :=
  wpList_plain hgd fun _ hK => by
    have e : (execOp a.eval o).run Try.prog w = .ok (.value (.agg (blk N))) w := by
      unfold execOp
      simp only [ho, Array.map_empty, Sem.run_bind]
      simp only [hb, Result.andThen_ok, Sem.run_pure]
    unfold Oper.wp
    rw [e]
    exact hK _ _ h

/-- Block k is held as f. -/
def holdV (s : St) (k : Int) (f : Nat → Int) : St := { s with held := fun j => if j = k then (if blankB f then none else some f) else s.held j }
theorem holdV_ok (h : Ok s) {k : Int} (hk : 0 ≤ k ∧ k < s.n) {f : Nat → Int} (hf : Can f) : Ok (holdV s k f) := by
  refine ⟨h.n, fun j g hj => ?_, h.wait, h.fuse, h.made, h.reads, h.claims⟩
  unfold holdV at hj
  simp only at hj
  by_cases e : j = k
  · rw [if_pos e] at hj
    cases hb : blankB f
    · rw [hb] at hj
      simp at hj
      subst hj
      exact ⟨by rw [e]; exact hk, hf, fun q => by rw [hf.blank.2 q] at hb; cases hb⟩
    · rw [hb] at hj; simp at hj
  · rw [if_neg e] at hj
    exact h.held j g hj
theorem holdV_heldV (s : St) (k : Int) (f : Nat → Int) : heldV (holdV s k f) = fun y => if y = k then (if blankB f then none else some (.agg (blk f))) else heldV s y := by
  funext y
  unfold heldV holdV
  simp only
  by_cases e : y = k
  · rw [if_pos e, if_pos e]
    cases blankB f <;> rfl
  · rw [if_neg e, if_neg e]
/-- Only the map of what is held has turned. -/
theorem DiskAt.hold (h : DiskAt w L s) {k : Int} (hk : 0 ≤ k ∧ k < s.n) {f : Nat → Int} (hf : Can f) {w' : World} (hm : MapIs Try.prog 3 w' L.hb (heldV (holdV s k f))) (hfr : Fr (fun i => i = L.hb) w w') : DiskAt w' L (holdV s k f) := by
  have hne : ∀ i, L.has i → i ≠ L.hb → w'.heap[i]? = w.heap[i]? := fun i hi q => hfr.block i (h.lt i hi) q
  obtain ⟨es, ck, hmm⟩ := h.held.isMap
  refine ⟨?_, hm, ?_, ?_, h.ne, holdV_ok h.ok hk hf⟩
  · rw [hne L.d (.inl rfl) fun e => by rw [← e, h.row] at hmm; cases hmm]
    exact h.row
  · exact h.late.kept (hne _ (.inr (.inr (.inl rfl))) fun e => h.ne e.symm)
  · refine ownsRow_kept0 h.hist fun i hi => hne i (.inr (.inr (.inr hi))) fun e => ?_
    rcases h.hist.2 with ⟨h1, _⟩ | ⟨g, cap, cur, h1, _, h2, _⟩
    · rw [h1] at hi; cases hi
    · rw [h1] at hi
      injection hi with hi
      rw [← hi] at e
      simp only at e
      rw [e, hmm] at h2
      cases h2
theorem keyed3 : Go.Maps.Keyed Try.prog 3 := Go.Maps.int_keyed Try.underlying3
theorem Fr.drew {T : Nat → Prop} (w : World) : Fr T w w.drew := ⟨rfl, rfl, rfl, Nat.le_refl _, fun _ _ _ => rfl⟩
theorem inTop_of (h : Ok s) {k : Int} (hk : 0 ≤ k ∧ k < s.n) : inTop k := by
  have := h.n
  unfold inTop
  omega

set_option maxRecDepth 20000 in
theorem hold_of (h : DiskAt w L s) {k : Int} (hk : 0 ≤ k ∧ k < s.n) {f : Nat → Int} (hf : Can f) {g off : Nat} (hg : BlkAt w g off f) :
    Calls Try.prog 61 #[.pointer (some ⟨L.d, 0, none⟩), .int .i64 k, .pointer (some ⟨g, off, none⟩)] w fun e w' => e = .returned (.tuple #[]) ∧ DiskAt w' L (holdV s k f) ∧ Fr (fun i => i = L.hb) w w' := by
  have hq := eq25
  have hbd := built58
  have c2 := h.c2
  have hin := inTop_of h.ok hk
  have hW := inTop.wf hin
  have HA : Hid (∀ w', MapIs Try.prog 3 w' L.hb (heldV (holdV s k f)) → Fr (fun i => i = L.hb) w w' → DiskAt w' L (holdV s k f)) := fun w' => h.hold hk hf
  rw [holdV_heldV] at HA
  have hM := h.held
  have hl : L.hb < w.heap.size := hM.lt
  cases hb : blankB f
  · rw [hb] at HA
    unfold blankB at hb
    clear h hf hk
    generalize nought = N at *
    go_enter Try.func61, Try.ntmps61
    go_wp2_with (first | refine wpList_loadM rfl _ rfl g off rfl f hg ?_ | refine wpList_build58 rfl rfl hbd ?_)
    go_still_tail 8, (by kernel_rfl)
    refine wpStill_loadM rfl _ rfl g off rfl f hg ?_
    refine wpStill_nil ?_
    change wpList _ _ _ _ _ (World.drew _)
    refine wpList_putM rfl _ _ _ 71 rfl 58 Try.underlying3 keyed3 Try.underlying71 L.hb _ rfl (hM.kept (w' := w.drew) rfl) k hin rfl _ rfl ?_
    intro w' hm' hg'
    have hF : Hid (Fr (fun i => i = L.hb) w w') := (Fr.drew w).trans ((Fr.ofGrown hg').mono fun i _ q => by injection q with q; exact q.symm) fun _ _ q => q
    have hD : Hid (DiskAt w' L (holdV s k f)) := HA.out w' hm' hF.out
    clear hm' hg' HA
    go_wp2
    go_end0
    exact ⟨rfl, hD.out, hF.out⟩
  · rw [hb] at HA
    unfold blankB at hb
    clear h hf hk
    generalize nought = N at *
    have HB : Hid (∀ w' : World, MapIs Try.prog 3 w' L.hb (fun y => if y = k then none else heldV s y) → w.grownBy w' (some L.hb) → DiskAt w' L (holdV s k f) ∧ Fr (fun i => i = L.hb) w w') := fun w' hm' hg' => by
      have hF : Fr (fun i => i = L.hb) w w' := (Fr.ofGrown hg').mono fun i _ q => by injection q with q; exact q.symm
      exact ⟨HA.out w' hm' hF, hF⟩
    clear HA
    go_enter Try.func61, Try.ntmps61
    go_wp2_with (first | refine wpList_loadM rfl _ rfl g off rfl f hg ?_ | refine wpList_build58 rfl rfl hbd ?_ | (refine wpList_delM rfl (.tmp 14) (.tmp 15) 71 rfl 58 Try.underlying3 keyed3 Try.underlying71 L.hb _ rfl hM k hW rfl ?_; intro w' hm' hg'))
    refine bodyPost_ret (results_none rfl _ _ _) rfl ?_
    exact ⟨rfl, HB.out _ hm' hg'⟩
end Go.Proofs.Ytembocfghkmieaa
