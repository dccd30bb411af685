/- Two lists of pieces that lie apart are written over and gone on with, and each holds its own; at most 100000 pieces each. -/
import Derived.Test.YtcimehjcajdfiaaSame
import Derived.OneCell
namespace Go.Proofs.Ytcimehjcajdfiaa
open Go.RowKit Go.Maps
section
variable {α : Type} {en : α → List Value} {sz : Nat}
/-- What the lists hold still: marks. -/
def KeepC (en : α → List Value) (sz : Nat) (mk : Nat → α) (v : Value) (n : Nat) (w : World) : Prop := 0 < n → ∃ g c, v = .slice (some ⟨g, 0, none⟩) n c ∧ g < w.heap.size ∧ ∀ i, i < n → ∀ j u, (en (mk i))[j]? = some u → w.cell? ⟨g, i * sz + j, none⟩ = some u
theorem KeepC.of (hr : ∀ x, (en x).length = sz) {B e n : Nat} {mk : Nat → α} {v : Value} {w : World} (h : w.ownsRow B e sz v n ((mks mk n).flatMap en)) : KeepC en sz mk v n w := fun h0 => by
  rcases own_form h with ⟨_, q⟩ | ⟨g, c, rfl, hlt⟩
  · omega
  · exact ⟨g, c, rfl, hlt, fun i hi => own_get hr h (mks_get mk n i hi)⟩
theorem KeepC.frame {n : Nat} {mk : Nat → α} {v : Value} {w w' : World} {T : Nat → Prop} (h : KeepC en sz mk v n w) (hf : Fr T w w') (hT : ∀ i, v.ownBlock = some i → ¬ T i) : KeepC en sz mk v n w' := fun h0 => by
  obtain ⟨g, c, rfl, hlt, hc⟩ := h h0
  exact ⟨g, c, rfl, Nat.lt_of_lt_of_le hlt hf.size, fun i hi j u hu => (World.cell?_of_block (a := ⟨g, i * sz + j, none⟩) (hf.block g hlt (hT g rfl))).trans (hc i hi j u hu)⟩
/-- A longer list in the same block holds what the shorter one holds. -/
theorem KeepC.under (hr : ∀ x, (en x).length = sz) {B e n m : Nat} {mk : Nat → α} {v u : Value} {w : World} (h0 : KeepC en sz mk v n w ∨ ∃ g c, v = .slice (some ⟨g, 0, none⟩) n c) (hu : w.ownsRow B e sz u m ((mks mk m).flatMap en)) (hb : u.ownBlock = v.ownBlock) (hnm : n ≤ m) : KeepC en sz mk v n w := fun hn => by
  rcases own_form hu with ⟨_, q⟩ | ⟨g, c, rfl, hlt⟩
  · omega
  · have hv : ∃ g' c', v = .slice (some ⟨g', 0, none⟩) n c' := by
      rcases h0 with q | q
      · obtain ⟨g', c', q, _⟩ := q hn
        exact ⟨g', c', q⟩
      · exact q
    obtain ⟨g', c', rfl⟩ := hv
    have e1 : g = g' := by simpa [Value.ownBlock] using hb
    subst e1
    exact ⟨g, c', rfl, hlt, fun i hi => own_get hr hu (mks_get mk m i (by omega))⟩
end
abbrev mksP (mk : Nat → Int × Int) (n : Nat) : List Value := (mks mk n).flatMap pc2
/-- Two lists, gone on with by i and j: each holds its marks, and what they began with does. -/
structure Dbl (mk1 mk2 : Nat → Int × Int) (v1 v2 : Value) (n1 n2 : Nat) (W : World) (i j : Nat) (u1 u2 : Value) (w : World) : Prop where
  own1 : w.ownsRow 0 39 2 u1 (n1 + i) (mksP mk1 (n1 + i))
  own2 : w.ownsRow 0 39 2 u2 (n2 + j) (mksP mk2 (n2 + j))
  keep1 : KeepC pc2 2 mk1 v1 n1 w
  keep2 : KeepC pc2 2 mk2 v2 n2 w
  blk1 : u1.ownBlock = v1.ownBlock ∨ ∀ b, u1.ownBlock = some b → W.heap.size ≤ b
  blk2 : u2.ownBlock = v2.ownBlock ∨ ∀ b, u2.ownBlock = some b → W.heap.size ≤ b
  vne : ∀ b, v1.ownBlock = some b → v2.ownBlock ≠ some b
  une : ∀ b, u1.ownBlock = some b → u2.ownBlock ≠ some b
  vlt1 : ∀ b, v1.ownBlock = some b → b < W.heap.size
  vlt2 : ∀ b, v2.ownBlock = some b → b < W.heap.size
  fr : Fr (fun b => v1.ownBlock = some b ∨ v2.ownBlock = some b) W w
theorem Dbl.swap {mk1 mk2 : Nat → Int × Int} {v1 v2 u1 u2 : Value} {n1 n2 i j : Nat} {W w : World} (h : Dbl mk1 mk2 v1 v2 n1 n2 W i j u1 u2 w) : Dbl mk2 mk1 v2 v1 n2 n1 W j i u2 u1 w :=
  ⟨h.own2, h.own1, h.keep2, h.keep1, h.blk2, h.blk1, fun b q r => h.vne b r q, fun b q r => h.une b r q, h.vlt2, h.vlt1, h.fr.mono fun _ _ q => q.symm⟩
theorem Dbl.push {mk1 mk2 : Nat → Int × Int} {v1 v2 u1 u2 : Value} {n1 n2 i j : Nat} {W w : World} (h : Dbl mk1 mk2 v1 v2 n1 n2 W i j u1 u2 w) (hn : n1 + i + 1 ≤ 1000000) (ty : TypeId) :
    ∃ u' w', (Builtin.append_ #[22, 22] ty #[u1, .slice (some ⟨w.heap.size, 0, none⟩) 1 1]).run Try.prog (w.alloc (.cells (pc2 (mk1 (n1 + i))).toArray 39)) = .ok u' w' ∧ Dbl mk1 mk2 v1 v2 n1 n2 W (i + 1) j u' u2 w' := by
  obtain ⟨i0, hi0, hz0, hz1, hz2⟩ := info_parts info39
  have hnews : ∀ j v, (pc2 (mk1 (n1 + i)))[j]? = some v → (w.alloc (.cells (pc2 (mk1 (n1 + i))).toArray 39)).cell? ((⟨w.heap.size, 0, none⟩ : Addr).add j) = some v := fun j v hv => by
    rw [Go.WideShapes.add_plain, Nat.zero_add, cell_of_row _ _ j _ 39 _ (heap_alloc_new w _), List.getElem?_toArray]
    exact hv
  obtain ⟨u', w', hrun, ho', hou, hf, hnew⟩ := append_keep Try.underlying22 hi0 hz0 hz1 hz2 rfl (by omega) (World.ownsRow.alloc h.own1 (.cells (pc2 (mk1 (n1 + i))).toArray 39)) (ad := ⟨w.heap.size, 0, none⟩) (m := 1) (c := 1) (news := pc2 (mk1 (n1 + i))) (by omega) rfl hnews (pc2_one _) (by unfold maxLen; omega) (by omega) (Nat.zero_le _) ty
  have hF : Fr (fun b => u1.ownBlock = some b) w w' := (Fr.alloc _ w (.cells (pc2 (mk1 (n1 + i))).toArray 39)).trans hf fun _ _ q => q
  have hsW : W.heap.size ≤ w.heap.size := h.fr.size
  have hu2lt : ∀ b, u2.ownBlock = some b → b < w.heap.size := fun b q => (h.own2.lt b q).2
  have hnew' : ∀ b, u'.ownBlock = some b → u1.ownBlock = some b ∨ w.heap.size ≤ b := fun b q => by
    rcases hnew b q with r | r
    · exact .inl r
    · right
      simp only [World.alloc, Array.size_push] at r
      omega
  refine ⟨u', w', hrun, ⟨?_, own_frame h.own2 hF fun b q r => h.une b r q, ?_, ?_, ?_, h.blk2, h.vne, fun b q r => ?_, h.vlt1, h.vlt2, h.fr.trans hF fun b hb q => ?_⟩⟩
  · rw [show n1 + (i + 1) = n1 + i + 1 by omega]
    unfold mksP
    rw [mks_succ, List.flatMap_append]
    simpa using ho'
  · rcases h.blk1 with r | r
    · exact KeepC.under pc2_len (.inl (show KeepC pc2 2 mk1 v1 n1 w' from fun h0 => by
        obtain ⟨g, c, hv, hlt, _⟩ := h.keep1 h0
        exact (KeepC.under (n := n1) (v := v1) pc2_len (.inr ⟨g, c, hv⟩) hou r (by omega)) h0)) hou r (by omega)
    · exact h.keep1.frame hF fun b hb q => by
        have := h.vlt1 b hb
        have := r b q
        omega
  · refine h.keep2.frame hF fun b hb q => ?_
    rcases h.blk1 with r | r
    · exact h.vne b (by rw [← r]; exact q) hb
    · have := h.vlt2 b hb
      have := r b q
      omega
  · cases hb : u'.ownBlock with
    | none => exact .inr fun b q => by cases q
    | some b =>
      rcases hnew' b hb with q | q
      · rcases h.blk1 with r | r
        · left
          rw [← r, q]
        · right
          intro b' hb'
          injection hb' with hb'
          rw [← hb']
          exact r b q
      · right
        intro b' hb'
        injection hb' with hb'
        rw [← hb']
        omega
  · rcases hnew' b q with s | s
    · exact h.une b s r
    · have := hu2lt b r
      omega
  · rcases h.blk1 with r | r
    · left
      rw [← r]
      exact q
    · have := r b q
      omega
theorem Dbl.start {mk1 mk2 : Nat → Int × Int} {v1 v2 : Value} {n1 n2 B : Nat} {W : World} (h1 : W.ownsRow B 39 2 v1 n1 (mksP mk1 n1)) (h2 : W.ownsRow B 39 2 v2 n2 (mksP mk2 n2)) (hne : ∀ b, v1.ownBlock = some b → v2.ownBlock ≠ some b) : Dbl mk1 mk2 v1 v2 n1 n2 W 0 0 v1 v2 W :=
  ⟨World.ownsRow.mono h1 (Nat.zero_le _), World.ownsRow.mono h2 (Nat.zero_le _), KeepC.of pc2_len h1, KeepC.of pc2_len h2, .inl rfl, .inl rfl, hne, hne, fun b q => (h1.lt b q).2, fun b q => (h2.lt b q).2, Fr.refl _ _⟩
theorem storePc {w : World} {g off : Nat} {x : Int × Int} {cur : Array Value} (hg : w.heap[g]? = some (.cells cur 39)) (hfit : off + 2 ≤ cur.size) :
    (Instr.storeAt 39 (.pointer (some ⟨g, off, none⟩)) (.agg (pc2 x).toArray)).run Try.prog w = .ok () (w.setRow g (putE cur off (pc2 x))) := by
  have hl := pc2_len x
  have hst := run_storeCells_at Try.prog g off 39 (pc2 x) 0 cur w hg (by rw [hl]; omega) (pc2_one x)
  obtain ⟨i0, hi0, hz0, hz1, hz2⟩ := info_parts info39
  unfold putE
  generalize pc2 x = Z at *
  simp [Instr.storeAt, Instr.sureAddr, storeVar, sizeOf, typeInfo, hi0, Value.cells, hl, hz1, hst]
theorem wpList_stPc {ops : Array Oper} {rest : List Oper} {o : Oper} {a : Act} {w : World} {Q : Exit → Act → World → Prop} (hgd : o.guard = none) (x y : Operand) (ho : o.op = .store 39 x y)
    (g off : Nat) (p : Int × Int) (cur : Array Value) (hx : a.eval x = .pointer (some ⟨g, off, none⟩)) (hy : a.eval y = .agg (pc2 p).toArray) (hg : w.heap[g]? = some (.cells cur 39)) (hfit : off + 2 ≤ cur.size)
    (h : wpList Try.prog ops Q rest (a.put o.dst undef) (w.setRow g (putE cur off (pc2 p)))) : wpList Try.prog ops Q (o :: rest) a w :=
  wpList_plain hgd fun _ hK => by
    unfold Oper.wp execOp
    simp only [ho, hx, hy, Sem.run_bind, storePc hg hfit, Result.andThen_ok, Sem.run_pure]
    exact hK _ _ h
end Go.Proofs.Ytcimehjcajdfiaa
