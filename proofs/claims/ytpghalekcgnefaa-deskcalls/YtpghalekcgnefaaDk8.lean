/- What a desk's All hands back: gone over, it gives what was held at the call, rising; or a beginning of it, where it is stopped; for lists of at most a million. -/
import Derived.Test.YtpghalekcgnefaaDk7
import Derived.RangeFuncNested
import Derived.RangeFuncBound
import Derived.RangeFuncCalls
import Derived.RangeFuncLeaves
import Derived.RangeFuncFrom
import Derived.Shelf.Abstract
import Derived.Shelf.RegionOpen
import Derived.OwnWalkIn
import Derived.TacticsInMore
import Derived.LoopNIn
import Derived.LoopIn
import Derived.Sort.BigQuietIn
namespace Go.Proofs.Ytpghalekcgnefaa
open Go.RowKit Go.Shelf Go.Lib
attribute [local go_sem] Oper.semAt_some
theorem wide_fn (f : FuncId) : Fence.wide.fn f := trivial
theorem wide_depth : Fence.wide.depth = none := rfl
attribute [local simp, local go_sem] wide_fn wide_depth
/-- A list of holdings that lies in memory. -/
def HeldAt (w : World) (p : Option Addr) (L : List (Int × Int)) : Prop := ∀ i x, L[i]? = some x → ∃ g, p = some ⟨g, 0, none⟩ ∧ w.cell? ⟨g, i * 2, none⟩ = some (.int .i64 x.1) ∧ w.cell? ⟨g, i * 2 + 1, none⟩ = some (.int .i64 x.2)
theorem HeldAt.of {w : World} {B : Nat} {v : Value} {L : List (Int × Int)} (h : w.ownsRow B 63 2 v L.length (L.flatMap pc2)) : ∃ p cap, v = .slice p L.length cap ∧ HeldAt w p L ∧ ∀ g, p = some ⟨g, 0, none⟩ → B ≤ g ∧ g < w.heap.size := by
  rcases own_form h with ⟨rfl, h0⟩ | ⟨g, c, rfl, hlt⟩
  · refine ⟨none, 0, by rw [h0], fun i x hx => ?_, fun g q => by cases q⟩
    have := (List.getElem?_eq_some_iff.1 hx).1
    omega
  · refine ⟨_, c, rfl, fun i x hx => ⟨g, rfl, own_get pc2_len h hx 0 _ rfl, own_get pc2_len h hx 1 _ rfl⟩, fun g' q => ?_⟩
    injection q with q
    injection q with q
    subst q
    exact h.lt g rfl
/-- A cell and a list's block stay. -/
def KpQ (q : Nat) (p : Option Addr) (A B : World) : Prop := B.heap[q]? = A.heap[q]? ∧ ∀ g, p = some ⟨g, 0, none⟩ → B.heap[g]? = A.heap[g]?
theorem KpQ.refl (q : Nat) (p : Option Addr) (A : World) : KpQ q p A A := ⟨rfl, fun _ _ => rfl⟩
theorem KpQ.trans {q : Nat} {p : Option Addr} {A B C : World} (h : KpQ q p A B) (k : KpQ q p B C) : KpQ q p A C := ⟨k.1.trans h.1, fun g e => (k.2 g e).trans (h.2 g e)⟩
theorem KpQ.cell {q : Nat} {p : Option Addr} {A B : World} (h : KpQ q p A B) : B.cell? ⟨q, 0, none⟩ = A.cell? ⟨q, 0, none⟩ := World.cell?_of_block h.1
theorem HeldAt.kept {w w' : World} {q : Nat} {p : Option Addr} {L : List (Int × Int)} (h : HeldAt w p L) (hb : KpQ q p w w') : HeldAt w' p L := fun i x hx => by
  obtain ⟨g, h1, h3, h4⟩ := h i x hx
  exact ⟨g, h1, (World.cell?_of_block (hb.2 g h1)).trans h3, (World.cell?_of_block (hb.2 g h1)).trans h4⟩
theorem KpQ.below {q n : Nat} {p : Option Addr} {A B : World} (h : Below n A B) (hq : q < n) (hp : ∀ g, p = some ⟨g, 0, none⟩ → g < n) : KpQ q p A B := ⟨h.block q hq, fun g e => h.block g (hp g e)⟩
set_option maxRecDepth 100000 in
set_option maxHeartbeats 4000000 in
theorem iterD_in {L : List (Int × Int)} {N : Nat} (hN : L.length = N) (hN1 : N ≤ 1000000) (n l q : Nat) (p : Option Addr) (cap : Nat) (J Jx : List (Int × Int) → World → Prop)
    (hY : ∀ pre x W, J pre W → pre.length < 1000000 → YieldAt Fence.wide (n - 1) Try.prog l #[.int .i64 x.1, .int .i64 x.2] W fun e W' =>
      (e = .returned (.bool true) ∧ J (pre ++ [x]) W' ∧ KpQ q p W W') ∨ (e = .returned (.bool false) ∧ Jx (pre ++ [x]) W'))
    (hJd : ∀ pre V V', J pre V → V.grownBy V' none → J pre V')
    (W : World) (hcq : W.cell? ⟨q, 0, none⟩ = some (.slice p N cap)) (hcl : HeldAt W p L) (h0 : J [] W) :
    CallsIn Fence.wide n Try.prog 28 #[.func (.yield l) #[] #[], .pointer (some ⟨q, 0, none⟩)] W fun e W' => (∃ v, e = .returned v) ∧
      ((∃ ys, ys = L ∧ J ys W') ∨ (∃ pre, pre <+: L ∧ Jx pre W')) := by
  have HY := (show Hid _ from hY)
  have HJd := (show Hid _ from hJd)
  have HL : Hid (HeldAt W p L) := hcl
  have HN : Hid (L.length = N) := hN
  clear hY hJd hcl hN
  refine callsIn_of_wp Try.func28 rfl trivial ?_ rfl
  simp only [Try.ntmps28, List.size_toArray, List.length_cons, List.length_nil, Nat.reduceAdd, Nat.reduceSub, Array.replicate_succ, Array.replicate_zero, List.push_toArray, List.append_toArray, List.nil_append, List.cons_append]
  gi_wp2
  gi_loopw [7] (fun s7 wr => ∃ k : Nat, k ≤ N ∧ s7 = .int .i64 k ∧ J (L.take k) wr ∧ Hid (KpQ q p W wr)) (fun s7 _ => N - (RowKit.intOf s7).toNat)
  case atStart => exact ⟨0, Nat.zero_le _, rfl, by simpa using h0, KpQ.refl _ _ _⟩
  case round =>
    obtain ⟨k, hk, rfl, hJ, hbel⟩ := hrel
    by_cases hk2 : k < N
    · have hln := HN.out
      have hx : L[k]? = some L[k] := List.getElem?_eq_getElem (by omega)
      obtain ⟨g, rfl, b0, b1⟩ := HeldAt.kept (q := q) HL.out hbel.out k _ hx
      have HT : Hid (L.take (k + 1) = L.take k ++ [L[k]]) := List.take_succ_eq_append_getElem (by omega)
      have HP : Hid (L.take (k + 1) <+: L) := List.take_prefix _ _
      generalize L[k] = x at *
      have HJ1 : Hid (∀ o, J (L.take k) (wr.alloc o)) := fun o => HJd.out _ _ _ hJ (World.grownBy_alloc wr o none)
      have HBE : Hid (KpQ q (some ⟨g, 0, none⟩) W (wr.alloc (.cells #[.int .i64 x.1, .int .i64 x.2] 63))) := by
        refine hbel.out.trans (KpQ.below (below_new _ _) ?_ ?_)
        · have h1 := hbel.out.cell
          rw [hcq] at h1
          exact World.block_lt_of_cell? _ _ h1
        · intro g' e
          injection e with e
          injection e with e
          subst e
          exact World.block_lt_of_cell? _ _ b0
      have hkl : (L.take k).length < 1000000 := by rw [List.length_take]; omega
      clear hJ hbel hx
      obtain ⟨fn, tmps, assign, body, hy', hR⟩ := HY.out (L.take k) x (wr.alloc (.cells #[.int .i64 x.1, .int .i64 x.2] 63)) (HJ1.out _) hkl
      clear HJ1
      gi_wp2
      refine hR.mono ?_
      rintro e W3 (⟨rfl, hJ3, hk3⟩ | ⟨rfl, hJx3⟩)
      · clear hy'
        gi_wp2
        go_roundw
        case rel => exact ⟨k + 1, by omega, by go_num, by rw [HT.out]; exact hJ3, HBE.out.trans hk3⟩
        case measure => simp [RowKit.intOf]; omega
      · clear hy'
        gi_wp2
        refine bodyPost_ret (results_none rfl _ _ _) rfl ?_
        exact ⟨⟨_, rfl⟩, .inr ⟨_, HP.out, by rw [HT.out]; exact hJx3⟩⟩
    · obtain rfl : k = N := by omega
      have hln := HN.out
      have HJ : Hid (J L wr) := by rw [← hln, List.take_length] at hJ; exact hJ
      clear hJ
      gi_wp2
      go_end0
      exact ⟨⟨_, rfl⟩, .inl ⟨_, rfl, HJ.out⟩⟩
theorem iterD_stops {L : List (Int × Int)} {N : Nat} (hN : L.length = N) (hN1 : N ≤ 1000000) (n q : Nat) (p : Option Addr) (cap : Nat) (w : World) (hq : q < w.heap.size) (hp : ∀ g, p = some ⟨g, 0, none⟩ → g < w.heap.size) (hcq : w.cell? ⟨q, 0, none⟩ = some (.slice p N cap)) (hcl : HeldAt w p L) :
    SeqStopsK Fence.wide n Try.prog 28 #[.pointer (some ⟨q, 0, none⟩)] (fun x : Int × Int => #[.int .i64 x.1, .int .i64 x.2]) (KpQ q p) (fun ys => ys = L) (fun pre => pre <+: L) 1000000 w := fun l J Jx W hW hJ _ hY h0 => by
  have hK : KpQ q p w W := KpQ.below hW hq hp
  exact iterD_in hN hN1 n l q p cap J Jx hY (fun pre V V' h hg => hJ pre V V' none h hg (fun r e => by cases e)) W (hK.cell.trans hcq) (hcl.kept hK) h0
theorem kpQ_b {w : World} {q : Nat} {p : Option Addr} (hq : q < w.heap.size) (hp : ∀ g, p = some ⟨g, 0, none⟩ → g < w.heap.size) (W : World) (l : Nat) (o o' : Obj) (hl : w.heap.size ≤ l) (_ : W.heap[l]? = some o) (_ : o.isCells = false) (_ : o.isWalk = false) : KpQ q p W (W.putObj l o') :=
  ⟨World.putObj_heap_other (by omega), fun g e => World.putObj_heap_other (by have := hp g e; omega)⟩
end Go.Proofs.Ytpghalekcgnefaa
