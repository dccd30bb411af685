/- Lists that are gone on with, one behind the other: what holds of all of them. -/
import Derived.Test.YtadljgaadjajdaaApG
namespace Go.Proofs.Ytadljgaadjajdaa
open Go.RowKit Go.Maps
section
variable {α : Type} {en : α → List Value} {e sl sz K gl : Nat} {mk : Nat → Nat → α} {vs : Nat → Value} {ns : Nat → Nat}
/-- The first k lists have been gone on with (gv), their row is v. -/
structure Grn (en : α → List Value) (e sl sz K gl : Nat) (mk : Nat → Nat → α) (vs : Nat → Value) (ns : Nat → Nat) (W2 : World) (k : Nat) (gv : Nat → Value) (v : Value) (w : World) : Prop where
  row : w.ownsRow W2.heap.size sl 1 v k ((List.range k).map gv)
  each : ∀ j, j < k → w.ownsRow 0 e sz (gv j) (ns j + 6) ((mks (mk j) (ns j + 6)).flatMap en) ∧ ((gv j).ownBlock = (vs j).ownBlock ∨ ∀ b, (gv j).ownBlock = some b → W2.heap.size ≤ b)
  keep : ∀ j, j < K → KeepC en sz (mk j) (vs j) (ns j) w
  own : ∀ j, k ≤ j → j < K → w.ownsRow 0 e sz (vs j) (ns j) ((mks (mk j) (ns j)).flatMap en)
  head : ∀ j, j < K → w.cell? ⟨gl, j, none⟩ = some (vs j)
  fr : Fr (TV K vs) W2 w
  glt : gl < W2.heap.size
  vlt : ∀ j, j < K → ∀ b, (vs j).ownBlock = some b → b < W2.heap.size
/-- List k is being gone on with: i marks more. -/
structure Inn (en : α → List Value) (e sz : Nat) (mk : Nat → α) (vk : Value) (nk : Nat) (W3 : World) (i : Nat) (u : Value) (w : World) : Prop where
  own : w.ownsRow 0 e sz u (nk + i) ((mks mk (nk + i)).flatMap en)
  blk : u.ownBlock = vk.ownBlock ∨ ∀ b, u.ownBlock = some b → W3.heap.size ≤ b
  keep : KeepC en sz mk vk nk w
  fr : Fr (fun b => vk.ownBlock = some b) W3 w
  vlt : ∀ b, vk.ownBlock = some b → b < W3.heap.size
theorem Inn.later {mk : Nat → α} {vk u : Value} {nk i : Nat} {W3 w w' : World} (h : Inn en e sz mk vk nk W3 i u w) (hb : Below w.heap.size w w') : Inn en e sz mk vk nk W3 i u w' :=
  ⟨own_later h.own hb, h.blk, h.keep.frame (Fr.ofBelow (T := fun _ => False) hb) (fun _ _ q => q), h.fr.trans (Fr.ofBelow (T := fun _ => False) hb) (fun _ _ q => q.elim), h.vlt⟩
theorem Inn.push (hr : ∀ x, (en x).length = sz) (h1 : ∀ x, ∀ u ∈ en x, u.oneCell' = true) {st : TypeId} {ti : TypeInfo} {z : Value} {bytes : Nat} (ht : Try.prog.underlying st = some (.slice e)) (hi : Try.prog.info? e = some ti) (hz : ti.zero = some z) (hsize : ti.size = sz) (hby : ti.bytes = bytes) (hzs : z.cells.size = sz) (hsz : 0 < sz)
    {mk : Nat → α} {vk u : Value} {nk i : Nat} {W3 w : World} (h : Inn en e sz mk vk nk W3 i u w) (hn : nk + i + 1 ≤ 100000000) (hbb : bytes ≤ 2000) (ty : TypeId) :
    ∃ u' w', (Builtin.append_ #[st, st] ty #[u, .slice (some ⟨w.heap.size, 0, none⟩) 1 1]).run Try.prog (w.alloc (.cells (en (mk (nk + i))).toArray e)) = .ok u' w' ∧ Inn en e sz mk vk nk W3 (i + 1) u' w' := by
  have hnews : ∀ j v, (en (mk (nk + i)))[j]? = some v → (w.alloc (.cells (en (mk (nk + i))).toArray e)).cell? ((⟨w.heap.size, 0, none⟩ : Addr).add j) = some v := fun j v hv => by
    rw [Go.WideShapes.add_plain, Nat.zero_add, cell_of_row _ _ j _ e _ (heap_alloc_new w _), List.getElem?_toArray]
    exact hv
  have hbt : ((nk + i + 1) + (nk + i + 1) / 4 + 192) * bytes ≤ 281474976710656 := by
    have : ((nk + i + 1) + (nk + i + 1) / 4 + 192) * bytes ≤ 125000192 * 2000 := Nat.mul_le_mul (by omega) hbb
    omega
  obtain ⟨u', w', hrun, ho', hou, hf, hnew⟩ := append_keep ht hi hz hsize hby hzs hsz (World.ownsRow.alloc h.own (.cells (en (mk (nk + i))).toArray e)) (ad := ⟨w.heap.size, 0, none⟩) (m := 1) (c := 1) (news := en (mk (nk + i))) (by omega) (by rw [hr, Nat.one_mul]) hnews (h1 _) (by unfold maxLen; omega) hbt (Nat.zero_le _) ty
  have hF : Fr (fun b => u.ownBlock = some b) w w' := (Fr.alloc _ w (.cells (en (mk (nk + i))).toArray e)).trans hf fun _ _ q => q
  have hsz3 : W3.heap.size ≤ w.heap.size := h.fr.size
  refine ⟨u', w', hrun, ⟨?_, ?_, ?_, h.fr.trans hF fun j hj q => ?_, h.vlt⟩⟩
  · rw [show nk + (i + 1) = nk + i + 1 by omega, mks_succ, List.flatMap_append]
    simpa using ho'
  · cases hb : u'.ownBlock with
    | none => exact .inr fun b q => by cases q
    | some b =>
      rcases hnew b hb with q | q
      · rcases h.blk with r | r
        · left
          rw [← r, q]
        · right
          intro b' hb'
          injection hb' with hb'
          rw [← hb']
          exact r b q
      · right
        intro b' hb'
        injection hb' with hb'
        rw [← hb']
        simp only [World.alloc, Array.size_push] at q
        omega
  · rcases h.blk with r | r
    · exact KeepC.under hr (.inl (show KeepC en sz mk vk nk w' from fun h0 => by
        obtain ⟨g, c, hv, hlt, _⟩ := h.keep h0
        exact (KeepC.under (n := nk) (v := vk) hr (.inr ⟨g, c, hv⟩) hou r (by omega)) h0)) hou r (by omega)
    · exact h.keep.frame hF fun b hb q => by
        have := h.vlt b hb
        have := r b q
        omega
  · rcases h.blk with r | r
    · rw [← r]; exact q
    · have := r j q
      omega
theorem Inn.start {vk : Value} {nk : Nat} {mk : Nat → α} {W3 : World} (hr : ∀ x, (en x).length = sz) (h : W3.ownsRow 0 e sz vk nk ((mks mk nk).flatMap en)) : Inn en e sz mk vk nk W3 0 vk W3 :=
  ⟨h, .inl rfl, KeepC.of hr h, Fr.refl _ _, fun b hb => (h.lt b hb).2⟩
/-- The row of the longer lists grows by one. -/
theorem Grn.next {ss : TypeId} {ti : TypeInfo} (ht : Try.prog.underlying ss = some (.slice sl)) (hi : Try.prog.info? sl = some ti) (hz : ti.zero = some (.slice none 0 0)) (hsize : ti.size = 1) (hby : ti.bytes = 24) (hne : sl ≠ e)
    {W2 W3 w : World} {k : Nat} {gv : Nat → Value} {v u : Value} (hap : Apt K gl vs) (h : Grn en e sl sz K gl mk vs ns W2 k gv v W3) (hk : k < K) (hK : K ≤ 90) (hu : Inn en e sz (mk k) (vs k) (ns k) W3 6 u w) (hu1 : u.oneCell' = true) (ty : TypeId) :
    ∃ v' w', (Builtin.append_ #[ss, ss] ty #[v, .slice (some ⟨w.heap.size, 0, none⟩) 1 1]).run Try.prog (w.alloc (.cells #[u] sl)) = .ok v' w' ∧ Grn en e sl sz K gl mk vs ns W2 (k + 1) (updV gv k u) v' w' := by
  have hs23 : W2.heap.size ≤ W3.heap.size := h.fr.size
  have hs3 : W3.heap.size ≤ w.heap.size := hu.fr.size
  have hrow3 : w.ownsRow W2.heap.size sl 1 v k ((List.range k).map gv) := own_frame h.row hu.fr fun b hb q => by
    have h1 := (h.row.lt b hb).1
    have h2 := h.vlt k hk b q
    omega
  have hnews : ∀ j x, [u][j]? = some x → (w.alloc (.cells #[u] sl)).cell? ((⟨w.heap.size, 0, none⟩ : Addr).add j) = some x := fun j x hx => by
    rw [Go.WideShapes.add_plain, Nat.zero_add, cell_of_row _ _ j _ sl _ (heap_alloc_new w _)]
    simpa using hx
  obtain ⟨v', w', hrun, ho', hf, hnew⟩ := append_gen (W := w.alloc (.cells #[u] sl)) (v := v) ht hi hz hsize hby rfl (by omega) (World.ownsRow.alloc hrow3 (.cells #[u] sl)) (ad := ⟨w.heap.size, 0, none⟩) (m := 1) (c := 1) (news := [u]) (by omega) rfl hnews (fun x hx => by simp at hx; subst hx; exact hu1) (by unfold maxLen; omega) (by omega) (by simp only [World.alloc, Array.size_push]; omega) ty
  have hF : Fr (fun b => v.ownBlock = some b) w w' := (Fr.alloc _ w (.cells #[u] sl)).trans hf fun _ _ q => q
  have hvB : ∀ b, v.ownBlock = some b → W2.heap.size ≤ b := fun b hb => (h.row.lt b hb).1
  have hF2 : Fr (fun b => v.ownBlock = some b ∨ (vs k).ownBlock = some b) W3 w' := (hu.fr.mono (T' := fun b => v.ownBlock = some b ∨ (vs k).ownBlock = some b) fun _ _ q => .inr q).trans hF fun _ _ q => .inl q
  have typ : ∀ {W : World} {x : Value} {n : Nat} {xs : List Value} {b : Nat}, W.ownsRow 0 e sz x n xs → x.ownBlock = some b → W.ownsRow W2.heap.size sl 1 v k ((List.range k).map gv) → v.ownBlock ≠ some b := fun {W x n xs b} hx hb hv q => by
    obtain ⟨_, hx⟩ := hx
    obtain ⟨_, hv⟩ := hv
    rcases hx with ⟨rfl, _⟩ | ⟨g1, c1, r1, rfl, _, hg1, _⟩
    · cases hb
    · rcases hv with ⟨rfl, _⟩ | ⟨g2, c2, r2, rfl, _, hg2, _⟩
      · cases q
      · injection hb with hb
        injection q with q
        have e1 : g1 = g2 := by rw [show g1 = b from hb, show g2 = b from q]
        subst e1
        rw [hg1] at hg2
        injection hg2 with hg2
        injection hg2 with _ hg2
        exact hne hg2.symm
  refine ⟨v', w', hrun, ⟨?_, fun j hj => ?_, fun j hj => ?_, fun j hj1 hj2 => ?_, fun j hj => ?_, ?_, h.glt, h.vlt⟩⟩
  · rw [← range_updV]
    exact ho'
  · by_cases q : j = k
    · subst q
      have eu : updV gv j u j = u := by unfold updV; rw [if_pos rfl]
      rw [eu]
      refine ⟨own_frame hu.own hF fun b hb => typ hu.own hb hrow3, ?_⟩
      rcases hu.blk with r | r
      · exact .inl r
      · exact .inr fun b hb => Nat.le_trans hs23 (r b hb)
    · have eu : updV gv k u j = gv j := by unfold updV; rw [if_neg q]
      rw [eu]
      obtain ⟨h1, h2⟩ := h.each j (by omega)
      refine ⟨own_frame h1 hF2 fun b hb r => ?_, h2⟩
      rcases r with r | r
      · exact typ h1 hb h.row r
      · rcases h2 with h2 | h2
        · rw [h2] at hb
          exact hap.two j k (by omega) hk q b hb r
        · have := h2 b hb
          have := h.vlt k hk b r
          omega
  · by_cases q : j = k
    · subst q
      exact hu.keep.frame hF fun b hb r => by
        have := h.vlt j hj b hb
        have := hvB b r
        omega
    · exact (h.keep j hj).frame hF2 fun b hb r => by
        rcases r with r | r
        · have := h.vlt j hj b hb
          have := hvB b r
          omega
        · exact hap.two j k hj hk q b hb r
  · refine own_frame (h.own j (by omega) hj2) hF2 fun b hb r => ?_
    rcases r with r | r
    · have := h.vlt j hj2 b hb
      have := hvB b r
      omega
    · exact hap.two j k hj2 hk (by omega) b hb r
  · have hc := h.head j hj
    refine (World.cell?_of_block (a := ⟨gl, j, none⟩) (hF2.block gl (Nat.lt_of_lt_of_le h.glt hs23) fun r => ?_)).trans hc
    rcases r with r | r
    · have := hvB gl r
      have := h.glt
      omega
    · exact hap.row k hk r
  · refine h.fr.trans hF2 fun b hb r => ?_
    rcases r with r | r
    · have := hvB b r
      omega
    · exact ⟨k, hk, r⟩
theorem Grn.start (hr : ∀ x, (en x).length = sz) {w0 W2 : World} (h : Lsts en e sz K gl vs w0 (fun j => mks (mk j) (ns j)) W2) (hK : 0 < K) : Grn en e sl sz K gl mk vs ns W2 0 (fun _ => undef) (.slice none 0 0) W2 :=
  ⟨World.ownsRow_nil _ _ _ _, fun j hj => absurd hj (by omega), fun j hj => KeepC.of hr (by have := h.own j hj; rwa [mks_len] at this), fun j _ hj => by have := h.own j hj; rwa [mks_len] at this, h.head, Fr.refl _ _, block_lt_of_cell (h.head 0 hK), fun j hj b hb => ((h.own j hj).lt b hb).2⟩
end
end Go.Proofs.Ytadljgaadjajdaa
