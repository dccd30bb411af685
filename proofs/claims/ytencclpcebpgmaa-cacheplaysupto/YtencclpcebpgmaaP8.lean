/- Several texts joined, each with its own remark; no condition. -/
import Derived.Test.YtencclpcebpgmaaP1
import Derived.Test.YtencclpcebpgmaaP7
/- Parts of memory that lie apart: one of them turns, the others stay; no condition. -/
namespace Go.Proofs.Ytencclpcebpgmaa
open Go.RowKit

theorem Fr.below' {T : Nat → Prop} {B : Nat} {a b : World} (h : Fr T a b) (hT : ∀ k, T k → k < a.heap.size → B ≤ k) (hB : B ≤ a.heap.size) : Below B a b :=
  ⟨h.os, h.tape, h.output, h.size, fun i hi => h.block i (by omega) fun q => by have := hT i q (by omega); omega⟩
/-- A part of memory: its blocks, and what it says. -/
structure Part where
  own : Nat → Prop
  say : World → Prop
/-- What a part says goes by its own blocks alone. -/
def Part.Good (p : Part) : Prop := ∀ W W' : World, p.say W → (∀ k, p.own k → k < W.heap.size) → (∀ k, p.own k → W'.heap[k]? = W.heap[k]?) → p.say W'
/-- Parts that were made since w, and lie apart. -/
structure Sep (w W : World) (l : List Part) : Prop where
  good : ∀ p ∈ l, p.Good
  say : ∀ p ∈ l, p.say W
  lt : ∀ p ∈ l, ∀ k, p.own k → w.heap.size ≤ k ∧ k < W.heap.size
  apart : l.Pairwise fun p q => ∀ k, p.own k → ¬ q.own k
  below : Below w.heap.size w W
variable {w W W' : World} {p p' q : Part} {l : List Part}
theorem Sep.head (h : Sep w W (p :: l)) : p.say W := h.say p (by simp)
theorem Sep.headLt (h : Sep w W (p :: l)) {k : Nat} (hk : p.own k) : w.heap.size ≤ k ∧ k < W.heap.size := h.lt p (by simp) k hk
/-- The first one turns. -/
theorem Sep.turn (h : Sep w W (p :: l)) {T : Nat → Prop} (hF : Fr T W W') (hT : ∀ k, k < W.heap.size → T k → p.own k) (hg : p'.Good) (hs : p'.say W') (ho : ∀ k, p'.own k → (p.own k ∨ W.heap.size ≤ k) ∧ k < W'.heap.size) : Sep w W' (p' :: l) := by
  obtain ⟨ha, hl⟩ := List.pairwise_cons.1 h.apart
  refine ⟨fun q hq => ?_, fun q hq => ?_, fun q hq k hk => ?_, List.pairwise_cons.2 ⟨fun q hq k hk hk2 => ?_, hl⟩, ?_⟩
  · rcases List.mem_cons.1 hq with rfl | hq
    · exact hg
    · exact h.good q (List.mem_cons_of_mem _ hq)
  · rcases List.mem_cons.1 hq with rfl | hq
    · exact hs
    · have hm : q ∈ p :: l := List.mem_cons_of_mem _ hq
      exact h.good q hm W W' (h.say q hm) (fun k hk => (h.lt q hm k hk).2) fun k hk => hF.block k (h.lt q hm k hk).2 fun hp => ha q hq k (hT k (h.lt q hm k hk).2 hp) hk
  · rcases List.mem_cons.1 hq with rfl | hq
    · refine ⟨?_, (ho k hk).2⟩
      rcases (ho k hk).1 with r | r
      · exact (h.lt p (by simp) k r).1
      · have := h.below.size; omega
    · have := h.lt q (List.mem_cons_of_mem _ hq) k hk
      exact ⟨this.1, Nat.lt_of_lt_of_le this.2 hF.size⟩
  · rcases (ho k hk).1 with r | r
    · exact ha q hq k r hk2
    · have := (h.lt q (List.mem_cons_of_mem _ hq) k hk2).2
      omega
  · exact h.below.trans (hF.below' (fun k hk hlt => (h.lt p (by simp) k (hT k hlt hk)).1) h.below.size)
theorem Sep.later (h : Sep w W l) (hb : Below W.heap.size W W') : Sep w W' l :=
  ⟨h.good, fun q hq => h.good q hq W W' (h.say q hq) (fun k hk => (h.lt q hq k hk).2) fun k hk => hb.block k (h.lt q hq k hk).2, fun q hq k hk => ⟨(h.lt q hq k hk).1, Nat.lt_of_lt_of_le (h.lt q hq k hk).2 hb.size⟩, h.apart, h.below.trans (hb.mono h.below.size)⟩
/-- One more, made just now. -/
theorem Sep.add (h : Sep w W l) (hb : Below W.heap.size W W') (hg : p.Good) (hs : p.say W') (ho : ∀ k, p.own k → W.heap.size ≤ k ∧ k < W'.heap.size) : Sep w W' (p :: l) := by
  have h2 := h.later hb
  refine ⟨fun q hq => ?_, fun q hq => ?_, fun q hq k hk => ?_, List.pairwise_cons.2 ⟨fun q hq k hk hk2 => ?_, h2.apart⟩, h2.below⟩
  · rcases List.mem_cons.1 hq with rfl | hq
    · exact hg
    · exact h2.good q hq
  · rcases List.mem_cons.1 hq with rfl | hq
    · exact hs
    · exact h2.say q hq
  · rcases List.mem_cons.1 hq with rfl | hq
    · have := h.below.size
      have := ho k hk
      omega
    · exact h2.lt q hq k hk
  · have := (h.lt q hq k hk2).2
    have := (ho k hk).1
    omega
theorem Sep.perm {l' : List Part} (h : Sep w W l) (hp : l.Perm l') : Sep w W l' :=
  ⟨fun q hq => h.good q (hp.mem_iff.2 hq), fun q hq => h.say q (hp.mem_iff.2 hq), fun q hq => h.lt q (hp.mem_iff.2 hq), (hp.pairwise_iff fun h k hk hk2 => h k hk2 hk).1 h.apart, h.below⟩
theorem Sep.swap (h : Sep w W (p :: q :: l)) : Sep w W (q :: p :: l) := h.perm (List.Perm.swap _ _ _)
/-- The third one comes to the front. -/
theorem Sep.third {r : Part} (h : Sep w W (p :: q :: r :: l)) : Sep w W (r :: p :: q :: l) := h.perm ((List.Perm.cons _ (List.Perm.swap _ _ _)).trans (List.Perm.swap _ _ _))
theorem Sep.back {r : Part} (h : Sep w W (r :: p :: q :: l)) : Sep w W (p :: q :: r :: l) := h.perm ((List.Perm.swap _ _ _).trans (List.Perm.cons _ (List.Perm.swap _ _ _)))
/-- The first one is let go. -/
theorem Sep.drop (h : Sep w W (p :: l)) : Sep w W l :=
  ⟨fun q hq => h.good q (List.mem_cons_of_mem _ hq), fun q hq => h.say q (List.mem_cons_of_mem _ hq), fun q hq => h.lt q (List.mem_cons_of_mem _ hq), (List.pairwise_cons.1 h.apart).2, h.below⟩
theorem Sep.nil (hb : Below w.heap.size w W) : Sep w W [] := ⟨by simp, by simp, by simp, List.Pairwise.nil, hb⟩
/-- Nothing. -/
def noPart : Part := ⟨fun _ => False, fun _ => True⟩
theorem noPart_good : noPart.Good := fun _ _ _ _ _ => trivial
theorem Sep.none (h : Sep w W l) : Sep w W (noPart :: l) := h.add (Below.refl _ _) noPart_good trivial fun _ q => q.elim
end Go.Proofs.Ytencclpcebpgmaa
/- Lists of numbers that were told stand as they were, hold marks of their own, and are told apart when they are gone on with; at most eight million of them, each of at most ten million. -/
namespace Go.Proofs.Ytencclpcebpgmaa
open Go.RowKit Go.Maps
section
variable {α : Type} {en : α → List Value} {e sl sz K gl : Nat} {mk : Nat → Nat → α} {vs : Nat → Value} {ns : Nat → Nat}
/-- The first k lists have been gone on with (gv), their row is v. -/
structure GrS (en : α → List Value) (e sl sz K gl : Nat) (mk : Nat → Nat → α) (vs : Nat → Value) (ns : Nat → Nat) (W2 : World) (k : Nat) (gv : Nat → Value) (v : Value) (w : World) : Prop where
  row : w.ownsRow W2.heap.size sl 1 v k ((List.range k).map gv)
  each : ∀ j, j < k → w.ownsRow 0 e sz (gv j) (ns j + 12) ((mks (mk j) (ns j + 12)).flatMap en) ∧ ((gv j).ownBlock = (vs j).ownBlock ∨ ∀ b, (gv j).ownBlock = some b → W2.heap.size ≤ b)
  keep : ∀ j, j < K → KeepC en sz (mk j) (vs j) (ns j) w
  own : ∀ j, k ≤ j → j < K → w.ownsRow 0 e sz (vs j) (ns j) ((mks (mk j) (ns j)).flatMap en)
  head : ∀ j, j < K → w.cell? ⟨gl, j, none⟩ = some (vs j)
  fr : Fr (TV K vs) W2 w
  glt : gl < W2.heap.size
  vlt : ∀ j, j < K → ∀ b, (vs j).ownBlock = some b → b < W2.heap.size
theorem GrS.next {ss : TypeId} {ti : TypeInfo} (ht : Try.prog.underlying ss = some (.slice sl)) (hi : Try.prog.info? sl = some ti) (hz : ti.zero = some (.slice none 0 0)) (hsize : ti.size = 1) (hby : ti.bytes = 24) (hne : sl ≠ e)
    {W2 W3 w : World} {k : Nat} {gv : Nat → Value} {v u : Value} (hap : Apt K gl vs) (h : GrS en e sl sz K gl mk vs ns W2 k gv v W3) (hk : k < K) (hK : K ≤ 8000000) (hu : Inn en e sz (mk k) (vs k) (ns k) W3 12 u w) (hu1 : u.oneCell' = true) (ty : TypeId) :
    ∃ v' w', (Builtin.append_ #[ss, ss] ty #[v, .slice (some ⟨w.heap.size, 0, none⟩) 1 1]).run Try.prog (w.alloc (.cells #[u] sl)) = .ok v' w' ∧ GrS en e sl sz K gl mk vs ns W2 (k + 1) (updV gv k u) v' w' := by
  have hs23 : W2.heap.size ≤ W3.heap.size := h.fr.size
  have hs3 : W3.heap.size ≤ w.heap.size := hu.fr.size
  have hrow3 : w.ownsRow W2.heap.size sl 1 v k ((List.range k).map gv) := own_frame h.row hu.fr fun b hb q => by
    have h1 := (h.row.lt b hb).1
    have h2 := h.vlt k hk b q
    omega
  have hnews : ∀ j x, [u][j]? = some x → (w.alloc (.cells #[u] sl)).cell? ((⟨w.heap.size, 0, none⟩ : Addr).add j) = some x := fun j x hx => by
    rw [Go.WideShapes.add_plain, Nat.zero_add, cell_of_row _ _ j _ sl _ (heap_alloc_new w _)]
    simpa using hx
  obtain ⟨v', w', hrun, ho', hf, hnew⟩ := append_gen (W := w.alloc (.cells #[u] sl)) (v := v) ht hi hz hsize hby rfl (by omega) (World.ownsRow.alloc hrow3 (.cells #[u] sl)) (ad := ⟨w.heap.size, 0, none⟩) (m := 1) (c := 1) (news := [u]) (by omega) rfl hnews (fun x hx => by simp at hx; subst hx; exact hu1) (by unfold maxLen; omega) (by omega) (by simp only [World.alloc, Array.size_push]; omega) ty
  have hF : Fr (fun b => v.ownBlock = some b) w w' := (Fr.alloc _ w (.cells #[u] sl)).trans hf fun _ _ q => q
  have hvB : ∀ b, v.ownBlock = some b → W2.heap.size ≤ b := fun b hb => (h.row.lt b hb).1
  have hF2 : Fr (fun b => v.ownBlock = some b ∨ (vs k).ownBlock = some b) W3 w' := (hu.fr.mono (T' := fun b => v.ownBlock = some b ∨ (vs k).ownBlock = some b) fun _ _ q => .inr q).trans hF fun _ _ q => .inl q
  have typ : ∀ {W : World} {x : Value} {n : Nat} {xs : List Value} {b : Nat}, W.ownsRow 0 e sz x n xs → x.ownBlock = some b → W.ownsRow W2.heap.size sl 1 v k ((List.range k).map gv) → v.ownBlock ≠ some b := fun {W x n xs b} hx hb hv q => by
    obtain ⟨_, hx⟩ := hx
    obtain ⟨_, hv⟩ := hv
    rcases hx with ⟨rfl, _⟩ | ⟨g1, c1, r1, rfl, _, hg1, _⟩
    · cases hb
    · rcases hv with ⟨rfl, _⟩ | ⟨g2, c2, r2, rfl, _, hg2, _⟩
      · cases q
      · injection hb with hb
        injection q with q
        have e1 : g1 = g2 := by rw [show g1 = b from hb, show g2 = b from q]
        subst e1
        rw [hg1] at hg2
        injection hg2 with hg2
        injection hg2 with _ hg2
        exact hne hg2.symm
  refine ⟨v', w', hrun, ⟨?_, fun j hj => ?_, fun j hj => ?_, fun j hj1 hj2 => ?_, fun j hj => ?_, ?_, h.glt, h.vlt⟩⟩
  · rw [← range_updV]
    exact ho'
  · by_cases q : j = k
    · subst q
      have eu : updV gv j u j = u := by unfold updV; rw [if_pos rfl]
      rw [eu]
      refine ⟨own_frame hu.own hF fun b hb => typ hu.own hb hrow3, ?_⟩
      rcases hu.blk with r | r
      · exact .inl r
      · exact .inr fun b hb => Nat.le_trans hs23 (r b hb)
    · have eu : updV gv k u j = gv j := by unfold updV; rw [if_neg q]
      rw [eu]
      obtain ⟨h1, h2⟩ := h.each j (by omega)
      refine ⟨own_frame h1 hF2 fun b hb r => ?_, h2⟩
      rcases r with r | r
      · exact typ h1 hb h.row r
      · rcases h2 with h2 | h2
        · rw [h2] at hb
          exact hap.two j k (by omega) hk q b hb r
        · have := h2 b hb
          have := h.vlt k hk b r
          omega
  · by_cases q : j = k
    · subst q
      exact hu.keep.frame hF fun b hb r => by
        have := h.vlt j hj b hb
        have := hvB b r
        omega
    · exact (h.keep j hj).frame hF2 fun b hb r => by
        rcases r with r | r
        · have := h.vlt j hj b hb
          have := hvB b r
          omega
        · exact hap.two j k hj hk q b hb r
  · refine own_frame (h.own j (by omega) hj2) hF2 fun b hb r => ?_
    rcases r with r | r
    · have := h.vlt j hj2 b hb
      have := hvB b r
      omega
    · exact hap.two j k hj2 hk (by omega) b hb r
  · have hc := h.head j hj
    refine (World.cell?_of_block (a := ⟨gl, j, none⟩) (hF2.block gl (Nat.lt_of_lt_of_le h.glt hs23) fun r => ?_)).trans hc
    rcases r with r | r
    · have := hvB gl r
      have := h.glt
      omega
    · exact hap.row k hk r
  · refine h.fr.trans hF2 fun b hb r => ?_
    rcases r with r | r
    · have := hvB b r
      omega
    · exact ⟨k, hk, r⟩
theorem GrS.start (hr : ∀ x, (en x).length = sz) {w0 W2 : World} (h : Lsts en e sz K gl vs w0 (fun j => mks (mk j) (ns j)) W2) (hK : 0 < K) : GrS en e sl sz K gl mk vs ns W2 0 (fun _ => undef) (.slice none 0 0) W2 :=
  ⟨World.ownsRow_nil _ _ _ _, fun j hj => absurd hj (by omega), fun j hj => KeepC.of hr (by have := h.own j hj; rwa [mks_len] at this), fun j _ hj => by have := h.own j hj; rwa [mks_len] at this, h.head, Fr.refl _ _, block_lt_of_cell (h.head 0 hK), fun j hj b hb => ((h.own j hj).lt b hb).2⟩
end
def enW (z : Int) : List Value := [.int .i64 z]
theorem lenW (x : Int) : (enW x).length = 1 := rfl
theorem oneW (x : Int) : ∀ u ∈ enW x, u.oneCell' = true := fun u hu => by simp [enW] at hu; subst hu; rfl
theorem infW3 : (Try.prog.info? 3).map (fun i => (i.zero, i.size, i.bytes)) = some (some (.int .i64 0), 1, 8) := by kernel_rfl
theorem infW54 : (Try.prog.info? 54).map (fun i => (i.zero, i.size, i.bytes)) = some (some (.slice none 0 0), 1, 24) := by kernel_rfl
/-- The marks: of list k so many as it has, then others. -/
def mkW (ns : Nat → Nat) (k i : Nat) : Int := if i < ns k then -2 - (k : Int) else -1000 - (k : Int)
theorem Lsts.cellW {K gl : Nat} {mk : Nat → Nat → Int} {vs : Nat → Value} {w0 w : World} {fs : Nat → List Int} {k i g n c : Nat} (h : Lsts enW 3 1 K gl vs w0 (fillU mk fs k i) w) (hap : Apt K gl vs) (hk : k < K)
    (hv : vs k = .slice (some ⟨g, 0, none⟩) n c) (hn : (fs k).length = n) (hi : i < n) : Lsts enW 3 1 K gl vs w0 (fillU mk fs k (i + 1)) (w.setCell ⟨g, i, none⟩ (.int .i64 (mk k i))) := by
  have ho := h.own k hk
  rw [fillU_len _ _ _ _ (by omega), hv, hn, fillU_at] at ho
  have hlen := asM_len (mk k) (fs k) i (by omega)
  have hnew := own_cell (i := i) (j := 0) (x := (asM (mk k) (fs k) i)[i]'(by omega)) (x' := mk k i) (u := .int .i64 (mk k i)) lenW ho (List.getElem?_eq_getElem (by omega)) (by omega) rfl
  rw [asM_set _ _ _ (by omega), Nat.mul_one, Nat.add_zero] at hnew
  have hgl : gl ≠ g := fun q => hap.row k hk (by rw [hv, q]; rfl)
  refine ⟨h.fr.trans (Fr.setCell w g i _) (fun j _ q => ⟨k, hk, by rw [hv, q]; rfl⟩), fun j hj => ?_, fun j hj => ?_⟩
  · exact (World.cell?_of_block (a := ⟨gl, j, none⟩) (Below.heap_setCell w _ _ gl hgl)).trans (h.head j hj)
  · by_cases q : j = k
    · subst q
      rw [fillU_len _ _ _ _ (by omega), hv, hn, fillU_at]
      exact hnew
    · have hj2 := own_frame (h.own j hj) (Fr.setCell w g i (.int .i64 (mk k i))) (fun b hb e => hap.two j k hj hk q b hb (by rw [hv, e]; rfl))
      rw [← fillU_step _ _ _ _ _ q]
      exact hj2
theorem flat_int : ∀ l : List Int, l.flatMap enW = l.map (Value.int .i64)
  | [] => rfl
  | x :: r => by rw [List.flatMap_cons, List.map_cons, flat_int r]; rfl
theorem heap_of_own {w : World} {B e sz g n c m : Nat} {xs : List Value} (h : w.ownsRow B e sz (.slice (some ⟨g, 0, none⟩) n c) m xs) (i : Nat) : w.frozen? ⟨g, i, none⟩ = false := by
  rcases h.2 with ⟨q, _⟩ | ⟨g', cap', cur, q, _, hh, _⟩
  · cases q
  · injection q with q1
    injection q1 with q1
    injection q1 with q1
    rw [← q1] at hh
    exact Joins.unfrozen_of_block hh _
set_option maxRecDepth 20000 in
set_option maxHeartbeats 4000000 in
theorem still_any (K gl gw : Nat) (ps qs : Nat → Option Addr) (ns cs ds : Nat → Nat) (w : World) (fs : Nat → List Int) (hK0 : 0 < K) (hK : (K : Int) ≤ 8000000) (cK cW : Nat) (hns : ∀ k, k < K → (fs k).length = ns k ∧ ns k ≤ 10000000)
    (hap : Apt K gl (fun k => .slice (ps k) (ns k) (cs k))) (h0 : Lsts enW 3 1 K gl (fun k => .slice (ps k) (ns k) (cs k)) w fs w)
    (hw : ∀ k, k < K → w.cell? ⟨gw, k, none⟩ = some (.slice (qs k) (ns k) (ds k)) ∧ IntsAt w (qs k) (fs k)) :
    Calls Try.prog 18 #[.slice (some ⟨gl, 0, none⟩) K cK, .slice (some ⟨gw, 0, none⟩) K cW] w fun e w' => e = .returned (.bool true) ∧ Fr (TV K (fun k => .slice (ps k) (ns k) (cs k))) w w' := by
  have HNS : Hid (∀ k, k < K → (fs k).length = ns k ∧ ns k ≤ 10000000) := hns
  have HAP : Hid (Apt K gl (fun k => .slice (ps k) (ns k) (cs k))) := hap
  have HW : Hid (∀ k, k < K → w.cell? ⟨gw, k, none⟩ = some (.slice (qs k) (ns k) (ds k)) ∧ IntsAt w (qs k) (fs k)) := hw
  obtain ⟨i0, hi0, hz0, hz1, hz2⟩ := info_parts infW3
  obtain ⟨i1, hi1, hy0, hy1, hy2⟩ := info_parts infW54
  have HI0 : Hid (Try.prog.info? 3 = some i0) := hi0
  have HI1 : Hid (Try.prog.info? 54 = some i1) := hi1
  have HZ : Hid (i0.zero = some (.int .i64 0) ∧ i0.size = 1 ∧ i0.bytes = 8) := ⟨hz0, hz1, hz2⟩
  have HY : Hid (i1.zero = some (.slice none 0 0) ∧ i1.size = 1 ∧ i1.bytes = 24) := ⟨hy0, hy1, hy2⟩
  have H0 : Hid (Lsts enW 3 1 K gl (fun k => .slice (ps k) (ns k) (cs k)) w fs w) := h0
  have H1 : Hid (∀ W, Below w.heap.size w W → Lsts enW 3 1 K gl (fun k => .slice (ps k) (ns k) (cs k)) w (fillU (mkW ns) fs 0 0) W) := fun W hb => (show Lsts enW 3 1 K gl (fun k => .slice (ps k) (ns k) (cs k)) w (fillU (mkW ns) fs 0 0) w from ⟨h0.fr, h0.head, fun j hj => by
    rw [fillU_zero]
    exact h0.own j hj⟩).later hb
  clear hi0 hz0 hz1 hz2 hi1 hy0 hy1 hy2 hns h0 hap hw
  go_enter Try.func18, Try.ntmps18
  go_wp2
  go_loopw [5] (fun s5 wx => ∃ k : Nat, (k : Int) ≤ K ∧ s5 = .int .i64 k ∧ Hid (Below w.heap.size w wx)) (fun s5 _ => K - (intOf s5).toNat)
  case atStart => exact ⟨0, by omega, rfl, Below.refl _ _⟩
  case round =>
    obtain ⟨k, hk, rfl, HB⟩ := hrel
    by_cases hk2 : (k : Int) < K
    · have hkN : k < K := by omega
      have hk3 : k < K := hkN
      have hl := H0.out.later HB.out
      have c1 : wr.cell? ⟨gl, k, none⟩ = some (.slice (ps k) (ns k) (cs k)) := hl.head k hkN
      obtain ⟨c2, hq⟩ := HW.out k hkN
      have c3 : wr.cell? ⟨gw, k, none⟩ = some (.slice (qs k) (ns k) (ds k)) := (HB.out.cell (p := ⟨gw, k, none⟩) (block_lt_of_cell c2)).trans c2
      have hn := (HNS.out k hkN)
      have hsame : ∀ q, Calls Try.prog 30 #[.slice (ps k) (ns k) (cs k), .slice (qs k) (ns k) (ds k)] (wr.drewN q) fun e w' => e = .returned (.bool true) ∧ Below (wr.drewN q).heap.size (wr.drewN q) w' := fun q => by
        have hb2 : Below w.heap.size w (wr.drewN q) := belowN HB.out q
        have ho := (H0.out.later hb2).own k hkN
        have ho2 : (wr.drewN q).ownsRow 0 3 1 (.slice (ps k) (ns k) (cs k)) (fs k).length ((fs k).map (Value.int .i64)) := by
          rw [show (fs k).map (Value.int .i64) = (fs k).flatMap enW from (flat_int (fs k)).symm]
          exact ho
        obtain ⟨p', c', e, h3, _⟩ := ints_of_row ho2
        injection e with e1 e2 e3
        have hq2 : IntsAt (wr.drewN q) (qs k) (fs k) := hq.later hb2
        have := sameInts_any (fs k) (fs k) p' (qs k) c' (ds k) (wr.drewN q) (by omega) h3 hq2
        rw [← e1, ← e3, hn.1] at this
        simpa using this
      clear hl c2 hq
      go_wp2
      have d1 : wr.drew.cell? ⟨gl, k, none⟩ = some (.slice (ps k) (ns k) (cs k)) := c1
      have d3 : wr.drew.cell? ⟨gw, k, none⟩ = some (.slice (qs k) (ns k) (ds k)) := c3
      refine wp_region_ord (S := fun u => u.cell? ⟨gl, k, none⟩ = some (.slice (ps k) (ns k) (cs k)) ∧ u.cell? ⟨gw, k, none⟩ = some (.slice (qs k) (ns k) (ds k))) [(0, true), (1, true), (2, true), (3, true), (4, true), (5, true), (6, true), (7, true), (8, false), (9, true)] (by kernel_rfl) rfl (by kernel_rfl) (fun d _ _ _ _ h => by cases d <;> exact h) ⟨d1, d3⟩ ?_
      simp only [inOrd, List.getElem?_cons_zero, List.getElem?_cons_succ]
      refine wpOrd_yield (v := .slice (some ⟨gl, 0, none⟩) K cK) rfl (fun u _ => exec_mv rfl rfl) ?_
      simp only [Act.put, List.setIfInBounds_toArray, List.set_cons_succ, List.set_cons_zero]
      refine wpOrd_yield (v := .int .i64 (k : Int)) rfl (fun u _ => exec_mv rfl rfl) ?_
      simp only [Act.put, List.setIfInBounds_toArray, List.set_cons_succ, List.set_cons_zero]
      refine wpOrd_yield (v := .pointer (some ⟨gl, k, none⟩)) rfl (fun u _ => by go_simp) ?_
      simp only [Act.put, List.setIfInBounds_toArray, List.set_cons_succ, List.set_cons_zero]
      refine wpOrd_yield (v := .slice (ps k) (ns k) (cs k)) rfl (fun u hu => by have := hu.1; go_simp) ?_
      simp only [Act.put, List.setIfInBounds_toArray, List.set_cons_succ, List.set_cons_zero]
      refine wpOrd_yield (v := .slice (some ⟨gw, 0, none⟩) K cW) rfl (fun u _ => exec_mv rfl rfl) ?_
      simp only [Act.put, List.setIfInBounds_toArray, List.set_cons_succ, List.set_cons_zero]
      refine wpOrd_yield (v := .int .i64 (k : Int)) rfl (fun u _ => exec_mv rfl rfl) ?_
      simp only [Act.put, List.setIfInBounds_toArray, List.set_cons_succ, List.set_cons_zero]
      refine wpOrd_yield (v := .pointer (some ⟨gw, k, none⟩)) rfl (fun u _ => by go_simp) ?_
      simp only [Act.put, List.setIfInBounds_toArray, List.set_cons_succ, List.set_cons_zero]
      refine wpOrd_yield (v := .slice (qs k) (ns k) (ds k)) rfl (fun u hu => by have := hu.2; go_simp) ?_
      simp only [Act.put, List.setIfInBounds_toArray, List.set_cons_succ, List.set_cons_zero]
      refine wpOrd_call rfl 30 _ _ rfl Try.call30 [.slice (ps k) (ns k) (cs k), .slice (qs k) (ns k) (ds k)] rfl ?_
      refine (hsame 1).mono ?_
      rintro e X ⟨rfl, hbX⟩
      have HBX : Hid (Below w.heap.size w X) := below_next (belowN HB.out 1) hbX
      refine ⟨_, rfl, ⟨(hbX.cell (p := ⟨gl, k, none⟩) (block_lt_of_cell d1)).trans d1, (hbX.cell (p := ⟨gw, k, none⟩) (block_lt_of_cell d3)).trans d3⟩, ?_⟩
      simp only [Act.put, List.setIfInBounds_toArray, List.set_cons_succ, List.set_cons_zero]
      refine wpOrd_yield (v := .bool true) rfl (fun u _ => by go_simp) ?_
      simp only [Act.put, List.setIfInBounds_toArray, List.set_cons_succ, List.set_cons_zero]
      refine wpOrd_nil ?_
      clear hsame hbX d1 d3 c1 c3
      go_wp2
      go_roundw
      case rel => exact ⟨k + 1, by omega, by go_num, HBX⟩
      case measure => simp [intOf]; omega
    · clear hk
      have HL0 : Hid (Lsts enW 3 1 K gl (fun k => .slice (ps k) (ns k) (cs k)) w (fillU (mkW ns) fs 0 0) wr) := H1.out _ HB.out
      clear H1 H0 HB HW
      go_wp2
      go_loopw [7] (fun s7 wx => ∃ k : Nat, (k : Int) ≤ K ∧ s7 = .int .i64 k ∧ Hid (Lsts enW 3 1 K gl (fun k => .slice (ps k) (ns k) (cs k)) w (fillU (mkW ns) fs k 0) wx)) (fun s7 _ => K - (intOf s7).toNat)
      case atStart => exact ⟨0, by omega, rfl, HL0⟩
      case round =>
        obtain ⟨k, hk, rfl, HL⟩ := hrel
        clear HL0
        by_cases hk2 : (k : Int) < K
        · have hkN : k < K := by omega
          have hn := (HNS.out k hkN).2
          have HLN : Hid ((fs k).length = ns k) := (HNS.out k hkN).1
          go_wp2
          go_loopw [8] (fun s8 wx => ∃ i : Nat, (i : Int) ≤ ns k ∧ s8 = .int .i64 i ∧ Hid (Lsts enW 3 1 K gl (fun k => .slice (ps k) (ns k) (cs k)) w (fillU (mkW ns) fs k i) wx)) (fun s8 _ => ns k - (intOf s8).toNat)
          case atStart => exact ⟨0, by omega, rfl, HL⟩
          case round =>
            clear HL
            obtain ⟨i, hi, rfl, HL⟩ := hrel
            have hhd : wr.cell? ⟨gl, k, none⟩ = some (.slice (ps k) (ns k) (cs k)) := HL.out.head k hkN
            by_cases hi2 : (i : Int) < ns k
            · obtain ⟨g, hp⟩ : ∃ g, ps k = some ⟨g, 0, none⟩ := by
                rcases own_form (HL.out.own k hkN) with ⟨q, _⟩ | ⟨g, c, q, _⟩
                · injection q with q1 q2
                  omega
                · injection q with q1 q2 q3
                  exact ⟨g, q1⟩
              have hst := HL.out.cellW (i := i) (g := g) (n := ns k) (c := cs k) HAP.out hkN (by show Value.slice (ps k) (ns k) (cs k) = _; rw [hp]) HLN.out (by omega)
              have hmk : mkW ns k i = -2 - (k : Int) := by unfold mkW; rw [if_pos (by omega)]
              rw [hmk] at hst
              have HST := (show Hid _ from hst)
              have hown : wr.ownsRow 0 3 1 (.slice (ps k) (ns k) (cs k)) (fillU (mkW ns) fs k i k).length ((fillU (mkW ns) fs k i k).flatMap enW) := HL.out.own k hkN
              rw [hp] at hhd hown
              rw [fillU_len _ _ _ _ (by have := HLN.out; omega), HLN.out] at hown
              have fr : wr.frozen? ⟨g, i, none⟩ = false := heap_of_own hown i
              obtain ⟨vv, hvv⟩ : ∃ vv, wr.cell? ⟨g, i, none⟩ = some vv := ⟨_, (World.ownsRow.cellAt hown i (by omega)).trans (List.getElem?_eq_getElem (by have := hown.1; omega))⟩
              have hw2 : IntKind.i64.wrap (-2 - (k : Int)) = -2 - (k : Int) := by rw [IntKind.wrap_i64]; omega
              clear hp hst hmk hown HL
              go_wp2
              go_roundw
              case rel => exact ⟨i + 1, by omega, by go_num, HST⟩
              case measure => simp [intOf]; omega
            · have e : i = (fs k).length := by rw [HLN.out]; omega
              have HL2 : Hid (Lsts enW 3 1 K gl (fun k => .slice (ps k) (ns k) (cs k)) w (fillU (mkW ns) fs (k + 1) 0) wr) := by have h := HL.out; rw [e] at h; exact h.next
              clear HL e
              go_wp2
              go_roundw
              case rel => exact ⟨k + 1, by omega, by go_num, HL2⟩
              case measure => simp [intOf]; omega
        · have e : K = k := by omega
          have HM : Hid (Lsts enW 3 1 K gl (fun k => .slice (ps k) (ns k) (cs k)) w (fun j => mks (mkW ns j) (ns j)) wr) := ⟨HL.out.fr, HL.out.head, fun j hj => by
            have h := HL.out.own j hj
            have q : fillU (mkW ns) fs k 0 j = mks (mkW ns j) (ns j) := by unfold fillU; rw [if_pos (by omega), (HNS.out j hj).1]
            rw [q] at h
            exact h⟩
          clear HL e hk
          have HG0 : Hid (GrS enW 3 54 1 K gl (mkW ns) (fun k => .slice (ps k) (ns k) (cs k)) ns wr 0 (fun _ => undef) (.slice none 0 0) wr) := GrS.start (sl := 54) lenW HM.out hK0
          have HF0 : Hid (Fr (TV K (fun k => .slice (ps k) (ns k) (cs k))) w wr) := HM.out.fr
          clear HM
          go_wp2
          generalize wr = W2 at HG0 HF0 ⊢
          go_loopw [9, 10] (fun s9 s10 wx => ∃ (k : Nat) (gv : Nat → Value), (k : Int) ≤ K ∧ s10 = .int .i64 k ∧ Hid (GrS enW 3 54 1 K gl (mkW ns) (fun k => .slice (ps k) (ns k) (cs k)) ns W2 k gv s9 wx)) (fun _ s10 _ => K - (intOf s10).toNat)
          case atStart => exact ⟨0, fun _ => undef, by omega, rfl, HG0⟩
          case round =>
            obtain ⟨k2, gv, hk3, rfl, HGr⟩ := hrel
            clear HG0
            by_cases hk4 : (k2 : Int) < K
            · have hkN : k2 < K := by omega
              have hn := (HNS.out k2 hkN).2
              have hhd : wr.cell? ⟨gl, k2, none⟩ = some (.slice (ps k2) (ns k2) (cs k2)) := HGr.out.head k2 hkN
              have HIn0 : Hid (Inn enW 3 1 (mkW ns k2) (.slice (ps k2) (ns k2) (cs k2)) (ns k2) wr 0 (.slice (ps k2) (ns k2) (cs k2)) wr) := Inn.start lenW (HGr.out.own k2 (Nat.le_refl _) hkN)
              have hgl3 : gl < wr.heap.size := block_lt_of_cell hhd
              go_wp2
              generalize wr = W3 at HGr hhd HIn0 hgl3 ⊢
              go_loopw [11, 12] (fun s11 s12 wx => ∃ i : Nat, (i : Int) ≤ 12 ∧ s12 = .int .i64 i ∧ Hid (Inn enW 3 1 (mkW ns k2) (.slice (ps k2) (ns k2) (cs k2)) (ns k2) W3 i s11 wx)) (fun _ s12 _ => 12 - (intOf s12).toNat)
              case atStart => exact ⟨0, by omega, rfl, HIn0⟩
              case round =>
                obtain ⟨i, hi, rfl, HS⟩ := hrel
                clear HIn0
                by_cases hi2 : (i : Int) < 12
                · obtain ⟨v', w3, hr, hin⟩ := HS.out.push lenW oneW Try.underlying54 HI0.out HZ.out.1 HZ.out.2.1 HZ.out.2.2 (by rfl) (by omega) (by omega) (by omega) 54
                  have hmk : mkW ns k2 (ns k2 + i) = -1000 - (k2 : Int) := by unfold mkW; rw [if_neg (by omega)]
                  have HIN : Hid (Inn enW 3 1 (mkW ns k2) (.slice (ps k2) (ns k2) (cs k2)) (ns k2) W3 (i + 1) v' w3) := hin
                  rw [hmk] at hr
                  have HR2 : Hid ((Builtin.append_ #[54, 54] 54 #[u11, .slice (some ⟨wr.heap.size, 0, none⟩) 1 1]).run Try.prog (wr.alloc (.cells #[.int .i64 (-1000 - (k2 : Int))] 3)) = .ok v' w3) := hr
                  have hw2 : IntKind.i64.wrap (-1000 - (k2 : Int)) = -1000 - (k2 : Int) := by rw [IntKind.wrap_i64]; omega
                  clear hin hr hmk HS hhd
                  go_wp2_with (first | refine wpList_exec rfl (exec_push rfl rfl rfl HR2.out) ?_)
                  exact ⟨⟨i + 1, by omega, by go_num, HIN⟩, by simp [intOf]; omega⟩
                · have hi6 : i = 12 := by omega
                  subst hi6
                  obtain ⟨g7, c7, hu7⟩ : ∃ g7 c7, u11 = .slice (some ⟨g7, 0, none⟩) (ns k2 + 12) c7 := by
                    rcases own_form HS.out.own with ⟨_, q⟩ | ⟨g, c, q, _⟩
                    · omega
                    · exact ⟨g, c, q⟩
                  subst hu7
                  obtain ⟨v', w3, hr, hG2⟩ := HGr.out.next (ss := 34) Try.underlying34 HI1.out HY.out.1 HY.out.2.1 HY.out.2.2 (by decide) HAP.out hkN (by omega) HS.out rfl 34
                  have HG2 := (show Hid _ from hG2)
                  have HRR := (show Hid _ from hr)
                  clear hG2 hr HS hhd HGr
                  go_wp2_with (first | refine wpList_exec rfl (exec_push rfl rfl rfl HRR.out) ?_)
                  exact ⟨⟨k2 + 1, _, by omega, by go_num, HG2⟩, by simp [intOf]; omega⟩
            · have e : k2 = K := by omega
              subst e
              have HC : Hid (∀ j, j < k2 → ∃ h c, gv j = .slice (some ⟨h, 0, none⟩) (ns j + 12) c ∧ ∀ i, i < ns j + 12 → wr.cell? ⟨h, i, none⟩ = some (.int .i64 (mkW ns j i))) := fun j hj => by
                obtain ⟨hj', _⟩ := HGr.out.each j hj
                obtain ⟨h, c, hv2, hlt, hcc⟩ := KeepC.of lenW hj' (by omega)
                exact ⟨h, c, hv2, fun i hi => by have := hcc i hi 0 _ rfl; rwa [Nat.mul_one, Nat.add_zero] at this⟩
              obtain ⟨G, cG, hu5, HD5⟩ : ∃ G cG, u9 = .slice (some ⟨G, 0, none⟩) k2 cG ∧ Hid (∀ j, j < k2 → wr.cell? ⟨G, j, none⟩ = some (gv j)) := by
                have hr := HGr.out.row
                obtain ⟨_, h2⟩ := hr
                rcases h2 with ⟨_, h0⟩ | ⟨G, cG, cur, hv, _⟩
                · omega
                · refine ⟨G, cG, hv, fun j hj => ?_⟩
                  have hr := HGr.out.row
                  rw [hv] at hr
                  rw [World.ownsRow.cellAt hr j (by omega)]
                  simp [hj]
              subst hu5
              have HE : Hid (∀ j, j < k2 → wr.cell? ⟨gl, j, none⟩ = some (.slice (ps j) (ns j) (cs j)) ∧ (0 < ns j → ∃ h, ps j = some ⟨h, 0, none⟩ ∧ ∀ i, i < ns j → wr.cell? ⟨h, i, none⟩ = some (.int .i64 (mkW ns j i)))) := fun j hj => by
                refine ⟨HGr.out.head j hj, fun h0 => ?_⟩
                obtain ⟨h, c, hv, hlt, hcc⟩ := HGr.out.keep j hj h0
                injection hv with hv1 hv2 hv3
                exact ⟨h, hv1, fun i hi => by have := hcc i hi 0 _ rfl; rwa [Nat.mul_one, Nat.add_zero] at this⟩
              have HF : Hid (Fr (TV k2 (fun k => .slice (ps k) (ns k) (cs k))) w wr) := HF0.out.trans HGr.out.fr (fun _ _ q => q)
              clear HGr HF0
              go_wp2
              generalize wr = W4 at HC HD5 HE HF ⊢
              go_loopw [13] (fun s13 wx => ∃ k : Nat, (k : Int) ≤ k2 ∧ s13 = .int .i64 k ∧ wx = W4) (fun s13 _ => k2 - (intOf s13).toNat)
              case atStart => exact ⟨0, by omega, rfl, rfl⟩
              case round =>
                obtain ⟨k5, hk5, rfl, hwx⟩ := hrel
                obtain rfl := hwx.symm
                by_cases hk6 : (k5 : Int) < k2
                · have hkN : k5 < k2 := by omega
                  obtain ⟨_, hn⟩ := HNS.out k5 hkN
                  obtain ⟨h, c, hgv, hc⟩ := HC.out k5 hkN
                  have hc5 := HD5.out k5 hkN
                  rw [hgv] at hc5
                  obtain ⟨hc6, hc7⟩ := HE.out k5 hkN
                  have HCc := (show Hid _ from hc)
                  have HC7 := (show Hid _ from hc7)
                  have w1 : IntKind.i64.wrap (-2 - (k5 : Int)) = -2 - (k5 : Int) := by rw [IntKind.wrap_i64]; omega
                  have w2 : IntKind.i64.wrap (-1000 - (k5 : Int)) = -1000 - (k5 : Int) := by rw [IntKind.wrap_i64]; omega
                  clear hc hc7 hgv
                  go_wp2
                  go_loopw [14] (fun s14 wx => ∃ i : Nat, (i : Int) ≤ ns k5 + 12 ∧ s14 = .int .i64 i ∧ wx = W4) (fun s14 _ => ns k5 + 12 - (intOf s14).toNat)
                  case atStart => exact ⟨0, by omega, rfl, rfl⟩
                  case round =>
                    obtain ⟨i, hi, rfl, hwx⟩ := hrel
                    obtain rfl := hwx.symm
                    by_cases hi2 : (i : Int) < ns k5 + 12
                    · have l1 := HCc.out i (by omega)
                      by_cases hi3 : i < ns k5
                      · obtain ⟨h6, hp6, hcc6⟩ := HC7.out (by omega)
                        have l2 := hcc6 i hi3
                        have hmk : mkW ns k5 i = -2 - (k5 : Int) := by unfold mkW; rw [if_pos hi3]
                        rw [hmk] at l1 l2
                        have hc6' := hc6
                        rw [hp6] at hc6'
                        have t1 : decide ((i : Int) < (ns k5 : Int)) = true := decide_eq_true (by omega)
                        have t2 : decide (i < ns k5) = true := decide_eq_true hi3
                        have t3 : decide ((ns k5 : Int) ≤ (i : Int)) = false := decide_eq_false (by omega)
                        have t4 : decide (ns k5 ≤ i) = false := decide_eq_false (by omega)
                        clear hp6 hcc6 hc6 hmk
                        go_wp2
                        go_roundw
                        case rel => exact ⟨i + 1, by omega, by go_num, by trivial⟩
                        case measure => simp [intOf]; omega
                      · have hmk : mkW ns k5 i = -1000 - (k5 : Int) := by unfold mkW; rw [if_neg hi3]
                        rw [hmk] at l1
                        have t1 : decide ((i : Int) < (ns k5 : Int)) = false := decide_eq_false (by omega)
                        have t2 : decide (i < ns k5) = false := decide_eq_false hi3
                        have t3 : decide ((ns k5 : Int) ≤ (i : Int)) = true := decide_eq_true (by omega)
                        have t4 : decide (ns k5 ≤ i) = true := decide_eq_true (by omega)
                        clear hmk
                        go_wp2
                        go_roundw
                        case rel => exact ⟨i + 1, by omega, by go_num, by trivial⟩
                        case measure => simp [intOf]; omega
                    · go_wp2
                      go_roundw
                      case rel => exact ⟨k5 + 1, by omega, by go_num, by trivial⟩
                      case measure => simp [intOf]; omega
                · go_wp2
                  go_ret
                  exact ⟨rfl, HF.out⟩
end Go.Proofs.Ytencclpcebpgmaa
/- The document's disk, as the cache's chapter has it: what is read now, what is held for good; each of its calls; disks of at least one block. -/
namespace Go.Proofs.Ytencclpcebpgmaa
open Go.RowKit Go.Maps
theorem hidd {p : Prop} (h : p) : Hid p := h
/-- What it stands for. -/
structure RD where
  now : List (Nat → Int)
  held : List (Nat → Int)
  fuse : Int
  stopped : Bool
  reads : Int
  made : Int
def enK (f : Nat → Int) : List Value := (blk f).toList
theorem lenK (f : Nat → Int) : (enK f).length = 1024 := by unfold enK; rw [Array.length_toList, blk_size]
theorem oneK (f : Nat → Int) : ∀ u ∈ enK f, u.oneCell' = true := fun u hu => by
  have := blk_one f
  rw [Array.all_eq_true_iff_forall_mem] at this
  exact this u (by simpa [enK] using hu)
/-- Where it lies. -/
structure RL where
  g : Nat
  pn : Nat
  cn : Nat
  ph : Nat
  ch : Nat
def RL.has (R : RL) (k : Nat) : Prop := k = R.g ∨ k = R.pn ∨ k = R.ph
def rd6 (R : RL) (n : Nat) (s : RD) : Array Value := #[.slice (some ⟨R.pn, 0, none⟩) n R.cn, .slice (some ⟨R.ph, 0, none⟩) n R.ch, .int .i64 s.fuse, .bool s.stopped, .int .i64 s.reads, .int .i64 s.made]
structure RDk (w : World) (R : RL) (n : Nat) (s : RD) : Prop where
  row : w.heap[R.g]? = some (.cells (rd6 R n s) 51)
  now : w.ownsRow 0 59 1024 (.slice (some ⟨R.pn, 0, none⟩) n R.cn) n (s.now.flatMap enK)
  held : w.ownsRow 0 59 1024 (.slice (some ⟨R.ph, 0, none⟩) n R.ch) n (s.held.flatMap enK)
  ne : R.pn ≠ R.ph
  ln : s.now.length = n
  lh : s.held.length = n
variable {w w' : World} {R : RL} {n : Nat} {s : RD}
theorem RDk.kept (h : RDk w R n s) (hb : ∀ k, R.has k → w'.heap[k]? = w.heap[k]?) : RDk w' R n s :=
  ⟨(hb _ (.inl rfl)).trans h.row, ownsRow_kept0 h.now fun k hk => hb k (by injection hk with hk; exact .inr (.inl hk.symm)), ownsRow_kept0 h.held fun k hk => hb k (by injection hk with hk; exact .inr (.inr hk.symm)), h.ne, h.ln, h.lh⟩
theorem RDk.lt (h : RDk w R n s) {k : Nat} (hk : R.has k) : k < w.heap.size := by
  rcases hk with rfl | rfl | rfl
  · exact (Array.getElem?_eq_some_iff.1 h.row).1
  · exact (h.now.lt _ rfl).2
  · exact (h.held.lt _ rfl).2
theorem RDk.later (h : RDk w R n s) (hb : Below w.heap.size w w') : RDk w' R n s := h.kept fun k hk => hb.block k (h.lt hk)
theorem RDk.gn (h : RDk w R n s) : R.pn ≠ R.g := fun q => own_ne h.now h.row (by decide) (by rw [← q]; rfl)
theorem RDk.gh (h : RDk w R n s) : R.ph ≠ R.g := fun q => own_ne h.held h.row (by decide) (by rw [← q]; rfl)
/-- A plain cell is written. -/
theorem RDk.set (h : RDk w R n s) {j : Nat} {u : Value} {s' : RD} (hr : (rd6 R n s).setIfInBounds j u = rd6 R n s') (h1 : s'.now = s.now) (h2 : s'.held = s.held) : RDk (w.setCell ⟨R.g, j, none⟩ u) R n s' := by
  refine ⟨?_, ?_, ?_, h.ne, by rw [h1]; exact h.ln, by rw [h2]; exact h.lh⟩
  · rw [heap_setCell_same w R.g j _ 51 u h.row, hr]
  · rw [h1]; exact ownsRow_kept0 h.now fun k hk => Below.heap_setCell w _ u k (by injection hk with hk; rw [← hk]; exact h.gn)
  · rw [h2]; exact ownsRow_kept0 h.held fun k hk => Below.heap_setCell w _ u k (by injection hk with hk; rw [← hk]; exact h.gh)
theorem RDk.cell (h : RDk w R n s) (i : Nat) : w.cell? ⟨R.g, i, none⟩ = (rd6 R n s)[i]? := Joins.cell_of_block h.row i
theorem RDk.free (h : RDk w R n s) (i : Nat) : w.frozen? ⟨R.g, i, none⟩ = false := Joins.unfrozen_of_block h.row i
/-- Is it stopped, or a number none of its blocks'? -/
def wrE (n : Nat) (s : RD) (k : Int) : Int := if s.stopped then 3 else if 0 ≤ k ∧ k < n then 0 else 2
theorem wrong6 (h : RDk w R n s) (k : Int) : Calls Try.prog 59 #[.pointer (some ⟨R.g, 0, none⟩), .int .i64 k] w fun e w' => e = .returned (.int .i64 (wrE n s k)) ∧ w' = w := by
  have c0 : w.cell? ⟨R.g, 0, none⟩ = some (.slice (some ⟨R.pn, 0, none⟩) n R.cn) := h.cell 0
  have c3 : w.cell? ⟨R.g, 3, none⟩ = some (.bool s.stopped) := h.cell 3
  unfold wrE
  clear h
  cases hs : s.stopped
  · rw [hs] at c3
    simp only [Bool.false_eq_true, if_false]
    by_cases h0 : k < 0
    · rw [if_neg (by omega)]
      go_enter Try.func59, Try.ntmps59
      go_wp2
      go_ret
      exact ⟨rfl, rfl⟩
    · by_cases h1 : k < n
      · rw [if_pos (by omega)]
        have h2 : ¬ ((n : Int) ≤ k) := by omega
        go_enter Try.func59, Try.ntmps59
        go_wp2
        go_ret
        exact ⟨rfl, rfl⟩
      · rw [if_neg (by omega)]
        have h2 : (n : Int) ≤ k := by omega
        go_enter Try.func59, Try.ntmps59
        go_wp2
        go_ret
        exact ⟨rfl, rfl⟩
  · rw [hs] at c3
    simp only [if_true]
    go_enter Try.func59, Try.ntmps59
    go_wp2
    go_ret
    exact ⟨rfl, rfl⟩
/-- Does the fuse let one through? -/
def ltB (s : RD) : Bool := decide (s.fuse ≠ 0)
def ltV (s : RD) : RD := if s.fuse = 0 then { s with stopped := true } else { s with fuse := (if 0 < s.fuse then s.fuse - 1 else s.fuse), made := s.made + 1 }
theorem lets6 (h : RDk w R n s) (hf : -9223372036854775808 ≤ s.fuse ∧ s.fuse ≤ 9223372036854775807) (hm : 0 ≤ s.made ∧ s.made < 9223372036854775807) : Calls Try.prog 52 #[.pointer (some ⟨R.g, 0, none⟩)] w fun e w' => e = .returned (.bool (ltB s)) ∧ RDk w' R n (ltV s) ∧ Fr (fun k => k = R.g) w w' := by
  have c2 : w.cell? ⟨R.g, 2, none⟩ = some (.int .i64 s.fuse) := h.cell 2
  have c3 : w.cell? ⟨R.g, 3, none⟩ = some (.bool s.stopped) := h.cell 3
  have c5 : w.cell? ⟨R.g, 5, none⟩ = some (.int .i64 s.made) := h.cell 5
  have f2 := h.free 2
  have f3 := h.free 3
  have f5 := h.free 5
  unfold ltB ltV
  by_cases h0 : s.fuse = 0
  · have H1 := hidd (h.set (j := 3) (u := .bool true) (s' := { s with stopped := true }) rfl rfl rfl)
    have HF := hidd (Fr.setCell w R.g 3 (.bool true))
    rw [if_pos h0]
    have e0 : decide (s.fuse ≠ 0) = false := by simp [h0]
    rw [e0]
    rw [h0] at c2
    clear h h0 e0
    go_enter Try.func52, Try.ntmps52
    go_wp2
    go_ret
    exact ⟨rfl, H1.out, HF.out⟩
  · rw [if_neg h0]
    have e0 : decide (s.fuse ≠ 0) = true := by simp [h0]
    rw [e0]
    by_cases h1 : 0 < s.fuse
    · rw [if_pos h1]
      have hA := h.set (j := 2) (u := .int .i64 (s.fuse - 1)) (s' := { s with fuse := s.fuse - 1 }) rfl rfl rfl
      have a5 : (w.setCell ⟨R.g, 2, none⟩ (.int .i64 (s.fuse - 1))).cell? ⟨R.g, 5, none⟩ = some (.int .i64 s.made) := hA.cell 5
      have b5 := hA.free 5
      have HB := hidd (hA.set (j := 5) (u := .int .i64 (s.made + 1)) (s' := { s with fuse := s.fuse - 1, made := s.made + 1 }) rfl rfl rfl)
      have HF := hidd ((Fr.setCell w R.g 2 (.int .i64 (s.fuse - 1))).trans (Fr.setCell _ R.g 5 (.int .i64 (s.made + 1))) fun _ _ q => q)
      have hw1 : IntKind.i64.wrap (s.fuse - 1) = s.fuse - 1 := by rw [IntKind.wrap_i64]; omega
      have hw2 : IntKind.i64.wrap (s.made + 1) = s.made + 1 := by rw [IntKind.wrap_i64]; omega
      clear h hA e0
      generalize s.fuse = fu at *
      generalize s.made = mk at *
      go_enter Try.func52, Try.ntmps52
      go_wp2
      go_ret
      exact ⟨rfl, HB.out, HF.out⟩
    · rw [if_neg h1]
      have HB := hidd (h.set (j := 5) (u := .int .i64 (s.made + 1)) (s' := { s with made := s.made + 1 }) rfl rfl rfl)
      have HF := hidd (Fr.setCell w R.g 5 (.int .i64 (s.made + 1)))
      have hw2 : IntKind.i64.wrap (s.made + 1) = s.made + 1 := by rw [IntKind.wrap_i64]; omega
      clear h e0
      generalize s.fuse = fu at *
      generalize s.made = mk at *
      go_enter Try.func52, Try.ntmps52
      go_wp2
      go_ret
      exact ⟨rfl, HB.out, HF.out⟩
/-- A new fuse. -/
def lgV (s : RD) (k : Int) : RD := if s.stopped then s else { s with fuse := max k (-1) }
theorem light6 (h : RDk w R n s) (k : Int) : Calls Try.prog 21 #[.pointer (some ⟨R.g, 0, none⟩), .int .i64 k] w fun e w' => e = .returned (.tuple #[]) ∧ RDk w' R n (lgV s k) ∧ Fr (fun k => k = R.g) w w' := by
  have c2 : w.cell? ⟨R.g, 2, none⟩ = some (.int .i64 s.fuse) := h.cell 2
  have c3 : w.cell? ⟨R.g, 3, none⟩ = some (.bool s.stopped) := h.cell 3
  have f2 := h.free 2
  unfold lgV
  cases hs : s.stopped
  · rw [hs] at c3
    simp only [Bool.false_eq_true, if_false]
    have HB := hidd (h.set (j := 2) (u := .int .i64 (max k (-1))) (s' := { s with fuse := max k (-1) }) rfl rfl rfl)
    have HF := hidd (Fr.setCell w R.g 2 (.int .i64 (max k (-1))))
    rw [hs] at HB
    clear h
    by_cases hk : k < -1
    · have e : max k (-1) = -1 := by omega
      rw [e] at HB HF ⊢
      go_enter Try.func21, Try.ntmps21
      go_wp2
      exact ⟨rfl, _, results_none rfl _ _ _, rfl, HB.out, HF.out⟩
    · have e : max k (-1) = k := by omega
      rw [e] at HB HF ⊢
      go_enter Try.func21, Try.ntmps21
      go_wp2
      exact ⟨rfl, _, results_none rfl _ _ _, rfl, HB.out, HF.out⟩
  · rw [hs] at c3
    simp only [if_true]
    have HB := hidd h
    clear h
    go_enter Try.func21, Try.ntmps21
    go_wp2
    exact ⟨rfl, _, results_none rfl _ _ _, rfl, HB.out, Fr.refl _ _⟩
end Go.Proofs.Ytencclpcebpgmaa
