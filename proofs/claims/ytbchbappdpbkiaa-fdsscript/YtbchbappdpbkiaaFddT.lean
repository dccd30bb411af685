/- What a table's All hands back: gone over, it gives the numbers held at the call, rising, each with what it stands for, or a beginning of them, where it is stopped; tables of at most a million rows. -/
import Derived.Test.YtbchbappdpbkiaaFd2
import Derived.Test.YtbchbappdpbkiaaFdaT
namespace Go.Proofs.Ytbchbappdpbkiaa
open Go.RowKit Go.Shelf Go.Lib
attribute [local go_sem] Oper.semAt_some
attribute [local simp, local go_sem] wide_fn wide_depth
/-- Rows that lie in memory. -/
def HeldT (w : World) (p : Option Addr) (R : List (Option ByteArray)) : Prop := ∀ k o, R[k]? = some o → ∃ b, p = some ⟨b, 0, none⟩ ∧ ∀ j u, (enT o)[j]? = some u → w.cell? ⟨b, k * 2 + j, none⟩ = some u
theorem HeldT.kept {w w' : World} {q : Nat} {p : Option Addr} {R : List (Option ByteArray)} (h : HeldT w p R) (hb : KpQ q p w w') : HeldT w' p R := fun k o hk => by
  obtain ⟨b, h1, h2⟩ := h k o hk
  exact ⟨b, h1, fun j u hu => (World.cell?_of_block (hb.2 b h1)).trans (h2 j u hu)⟩
theorem HeldT.of {w : World} {B : Nat} {v : Value} {R : List (Option ByteArray)} (h : w.ownsRow B 96 2 v R.length (R.flatMap enT)) : ∃ p cap, v = .slice p R.length cap ∧ HeldT w p R ∧ ∀ g, p = some ⟨g, 0, none⟩ → B ≤ g ∧ g < w.heap.size := by
  rcases own_form h with ⟨rfl, h0⟩ | ⟨g, c, rfl, hlt⟩
  · refine ⟨none, 0, by rw [h0], fun k o hk => ?_, fun g q => by cases q⟩
    have := (List.getElem?_eq_some_iff.1 hk).1
    omega
  · refine ⟨_, c, rfl, fun k o hk => ⟨g, rfl, own_get lenT h hk⟩, fun g' q => ?_⟩
    injection q with q
    injection q with q
    subst q
    exact h.lt g rfl
def encT (x : Nat × ByteArray) : Array Value := (fun (i : Nat) (x : ByteArray) => #[.int .i64 (i : Int), .string x]) x.1 x.2
set_option maxRecDepth 100000 in
set_option maxHeartbeats 4000000 in
theorem iter_inT {R : List (Option ByteArray)} {N : Nat} (hN : R.length = N) (hN1 : N ≤ 1000000) (n l q : Nat) (p : Option Addr) (cap : Nat) (J Jx : List (Nat × ByteArray) → World → Prop)
    (hY : ∀ pre x W, J pre W → pre.length < 1000000 → YieldAt Fence.wide (n - 1) Try.prog l (encT x) W fun e W' =>
      (e = .returned (.bool true) ∧ J (pre ++ [x]) W' ∧ KpQ q p W W') ∨ (e = .returned (.bool false) ∧ Jx (pre ++ [x]) W'))
    (hJd : ∀ pre V V', J pre V → V.grownBy V' none → J pre V')
    (W : World) (hcq : W.cell? ⟨q, 0, none⟩ = some (.slice p N cap)) (hcl : HeldT W p R) (h0 : J [] W) :
    CallsIn Fence.wide n Try.prog 63 #[.func (.yield l) #[] #[], .pointer (some ⟨q, 0, none⟩)] W fun e W' => (∃ v, e = .returned v) ∧
      ((∃ ys, ys = hl R ∧ J ys W') ∨ (∃ pre, pre <+: hl R ∧ Jx pre W')) := by
  have HY := (show Hid _ from hY)
  have HJd := (show Hid _ from hJd)
  have HL : Hid (HeldT W p R) := hcl
  have HN : Hid (R.length = N) := hN
  clear hY hJd hcl hN
  refine callsIn_of_wp Try.func63 rfl trivial ?_ rfl
  simp only [Try.ntmps63, List.size_toArray, List.length_cons, List.length_nil, Nat.reduceAdd, Nat.reduceSub, Array.replicate_succ, Array.replicate_zero, List.push_toArray, List.append_toArray, List.nil_append, List.cons_append]
  gi_wp2
  gi_loopw [7] (fun s7 wr => ∃ k : Nat, k ≤ N ∧ s7 = .int .i64 k ∧ J (hl (R.take k)) wr ∧ Hid (KpQ q p W wr)) (fun s7 _ => N - (RowKit.intOf s7).toNat)
  case atStart => exact ⟨0, Nat.zero_le _, rfl, by simpa [hl, hlF] using h0, KpQ.refl _ _ _⟩
  case round =>
    obtain ⟨k, hk, rfl, hJ, hbel⟩ := hrel
    by_cases hk2 : k < N
    · have hln := HN.out
      have hx : R[k]? = some R[k] := List.getElem?_eq_getElem (by omega)
      obtain ⟨g, rfl, hcc⟩ := HeldT.kept (q := q) HL.out hbel.out k _ hx
      have HT := (show Hid _ from hl_take hx)
      have HP : Hid (hl (R.take (k + 1)) <+: hl R) := hl_pre _ _
      have hqlt : q < wr.heap.size := by
        have h1 := hbel.out.cell
        rw [hcq] at h1
        exact World.block_lt_of_cell? _ _ h1
      have hglt : g < wr.heap.size := by
        cases e : R[k] with
        | none => rw [e] at hcc; exact World.block_lt_of_cell? _ _ (hcc 0 _ rfl)
        | some y => rw [e] at hcc; exact World.block_lt_of_cell? _ _ (hcc 0 _ rfl)
      have hkl : (hl (R.take k)).length < 1000000 := by
        rw [hl_len]
        have := cnt_le (R.take k)
        rw [List.length_take] at this
        omega
      have HJ1 : Hid (∀ o, J (hl (R.take k)) (wr.alloc o)) := fun o => HJd.out _ _ _ hJ (World.grownBy_alloc wr o none)
      have HBE : ∀ o, Hid (KpQ q (some ⟨g, 0, none⟩) W (wr.alloc o)) := fun o => by
        refine hbel.out.trans (KpQ.below (below_new _ _) hqlt ?_)
        intro g' e
        injection e with e
        injection e with e
        subst e
        exact hglt
      cases e : R[k] with
      | none =>
        rw [e] at hcc HT
        have b0 := hcc 0 _ rfl
        have b1 := hcc 1 _ rfl
        rw [Nat.add_zero] at b0
        clear hJ hbel hx hcc e
        gi_wp2
        go_roundw
        case rel => exact ⟨k + 1, by omega, by go_num, by rw [HT.out, show hlF k [(none : Option ByteArray)] = [] from rfl, List.append_nil]; exact HJ1.out _, HBE _⟩
        case measure => simp [RowKit.intOf]; omega
      | some x =>
        rw [e] at hcc HT
        have b0 := hcc 0 _ rfl
        have b1 := hcc 1 _ rfl
        rw [Nat.add_zero] at b0
        clear hJ hbel hx hcc e
        obtain ⟨fn, tmps, assign, body, hy', hR⟩ := HY.out (hl (R.take k)) (k, x) (wr.alloc (.cells #[.bool true, .string x] 96)) (HJ1.out _) hkl
        have HB := HBE (.cells #[.bool true, .string x] 96)
        unfold encT at hy'
        clear HJ1 HBE
        gi_wp2
        refine hR.mono ?_
        rintro e W3 (⟨rfl, hJ3, hk3⟩ | ⟨rfl, hJx3⟩)
        · clear hy'
          gi_wp2
          go_roundw
          case rel => exact ⟨k + 1, by omega, by go_num, by rw [HT.out]; exact hJ3, HB.out.trans hk3⟩
          case measure => simp [RowKit.intOf]; omega
        · clear hy'
          gi_wp2
          refine bodyPost_ret (results_none rfl _ _ _) rfl ?_
          exact ⟨⟨_, rfl⟩, .inr ⟨_, HP.out, by rw [HT.out]; exact hJx3⟩⟩
    · obtain rfl : k = N := by omega
      have hln := HN.out
      have HJ : Hid (J (hl R) wr) := by rw [← hln, List.take_length] at hJ; exact hJ
      clear hJ
      gi_wp2
      go_end0
      exact ⟨⟨_, rfl⟩, .inl ⟨_, rfl, HJ.out⟩⟩
theorem iter_stopsT {R : List (Option ByteArray)} {N : Nat} (hN : R.length = N) (hN1 : N ≤ 1000000) (n q : Nat) (p : Option Addr) (cap : Nat) (w : World) (hq : q < w.heap.size) (hp : ∀ g, p = some ⟨g, 0, none⟩ → g < w.heap.size) (hcq : w.cell? ⟨q, 0, none⟩ = some (.slice p N cap)) (hcl : HeldT w p R) :
    SeqStopsK Fence.wide n Try.prog 63 #[.pointer (some ⟨q, 0, none⟩)] encT (KpQ q p) (fun ys => ys = hl R) (fun pre => pre <+: hl R) 1000000 w := fun l J Jx W hW hJ _ hY h0 => by
  have hK : KpQ q p w W := KpQ.below hW hq hp
  exact iter_inT hN hN1 n l q p cap J Jx hY (fun pre V V' h hg => hJ pre V V' none h hg (fun r e => by cases e)) W (hK.cell.trans hcq) (hcl.kept hK) h0
end Go.Proofs.Ytbchbappdpbkiaa
