/- Pending: the places of the pending writes; no condition but a bound on the list's length that no list of this program passes. -/
import Derived.Test.YtbnbbelkddbndaaAfter
namespace Go.Proofs.Ytbnbbelkddbndaa
open Go.RowKit Go.Maps
def isWrite (l : List Rec) (j : Nat) : Bool := match l[j]? with
  | some r => decide (r.kind = 1)
  | none => false
/-- The places below i of what is pending. -/
def pendUpto (l : List Rec) (i : Nat) : List Int := ((List.range i).filter fun j => decide (sureN l ≤ j) && isWrite l j).map fun j : Nat => (j : Int)
def pendL (l : List Rec) : List Int := pendUpto l l.length
theorem pendUpto_sure (l : List Rec) : pendUpto l (sureN l) = [] := by
  unfold pendUpto
  have : (List.range (sureN l)).filter (fun j => decide (sureN l ≤ j) && isWrite l j) = [] := by
    rw [List.filter_eq_nil_iff]
    intro j hj
    have := List.mem_range.1 hj
    simp
    omega
  rw [this]
  rfl
theorem pendUpto_next {l : List Rec} {i : Nat} (hi : sureN l ≤ i) : pendUpto l (i + 1) = pendUpto l i ++ (if isWrite l i then [(i : Int)] else []) := by
  unfold pendUpto
  rw [List.range_succ, List.filter_append, List.map_append]
  congr 1
  cases h : isWrite l i <;> simp [h, hi]
theorem pendUpto_len (l : List Rec) (i : Nat) : (pendUpto l i).length ≤ i := by
  unfold pendUpto
  rw [List.length_map]
  exact Nat.le_trans (List.length_filter_le _ _) (by simp)
/-- How many ops are looked at. -/
def upTo (n : Nat) (k : Int) : Nat := min k.toNat n
set_option maxRecDepth 20000 in
set_option maxHeartbeats 1000000 in
theorem pending_any (ops : List Rec) (po : Option Addr) (co : Nat) (k : Int) (w : World) (hlo : ops.length < 68719476736) (ho : OpsAt w po ops) (hco : ops.length ≤ co) :
    Calls Try.prog 27 #[.slice po ops.length co, .int .i64 k] w fun e w' => ∃ v : Value, e = .returned v ∧ w'.ownsRow w.heap.size 3 1 v (pendL (ops.take (upTo ops.length k))).length ((pendL (ops.take (upTo ops.length k))).map (Value.int .i64)) ∧ Below w.heap.size w w' := by
  have hum : upTo ops.length k ≤ ops.length := by unfold upTo; omega
  have hui : ((upTo ops.length k : Nat) : Int) = min (max k 0) ops.length := by unfold upTo; omega
  have htk : (ops.take (upTo ops.length k)).length = upTo ops.length k := by rw [List.length_take]; omega
  have hS := sure_any (ops.take (upTo ops.length k)) po co w (by omega) (ho.take _)
  have HO : Hid (OpsAt w po (ops.take (upTo ops.length k))) := ho.take _
  rw [htk] at hS
  have hsl := sureN_le (ops.take (upTo ops.length k))
  rw [htk] at hsl
  unfold pendL
  rw [htk]
  have hsm := fun u => slice25 po ops.length co (upTo ops.length k) (by omega) u
  obtain ⟨i0, hi0, hz0, hz1, hz2⟩ := info_parts info3b
  clear ho
  generalize ops.take (upTo ops.length k) = fs at *
  obtain ⟨m, hm⟩ : ∃ m, upTo ops.length k = m := ⟨_, rfl⟩
  rw [hm] at hum hui hS hsl hsm htk ⊢
  obtain ⟨N, hN⟩ : ∃ N, sureN fs = N := ⟨_, rfl⟩
  rw [hN] at hS hsl
  have HN : Hid (sureN fs = N) := hN
  have HP0 : Hid (pendUpto fs N = []) := by
    have := pendUpto_sure fs
    rwa [hN] at this
  clear hm hN
  have hcase : (k ≤ 0 ∧ m = 0) ∨ (0 < k ∧ k ≤ ops.length ∧ (m : Int) = k) ∨ (0 < k ∧ (ops.length : Int) < k ∧ m = ops.length) := by omega
  clear hui
  have HO0 : Hid (w.ownsRow w.heap.size 3 1 (.slice none 0 0) (pendUpto fs N).length ((pendUpto fs N).map (Value.int .i64))) := by
    have := World.ownsRow_nil w w.heap.size 3 1
    rw [HP0.out]
    exact this
  have hcase' : (k ≤ 0 ∧ Hid (m = 0)) ∨ (0 < k ∧ k ≤ ops.length ∧ Hid ((m : Int) = k)) ∨ (0 < k ∧ (ops.length : Int) < k ∧ Hid (m = ops.length)) := by
    rcases hcase with ⟨h1, h2⟩ | ⟨h1, h2, h3⟩ | ⟨h1, h2, h3⟩
    · exact .inl ⟨h1, h2⟩
    · exact .inr (.inl ⟨h1, h2, h3⟩)
    · exact .inr (.inr ⟨h1, h2, h3⟩)
  clear hcase hsm HP0
  have HTk : Hid (fs.length = m) := htk
  clear htk
  rcases hcase' with ⟨h1, HC⟩ | ⟨h1, h2, HC⟩ | ⟨h1, h2, HC⟩
  all_goals
    go_enter Try.func27, Try.ntmps27
    go_wp2_with (first | refine wpList_slice25 rfl (.tmp 8) (.tmp 13) rfl po ops.length co m (by omega) rfl (by show Value.int IntKind.i64 _ = _; exact congrArg _ (by have := HC.out; omega)) ?_ | (go_at_call 63; refine hS.mono ?_; rintro e W ⟨rfl, rfl⟩))
    go_loopw [6, 7] (fun s6 s7 wx => ∃ (i : Nat) (v : Value), N ≤ i ∧ i ≤ m ∧ s7 = .int .i64 i ∧ s6 = v ∧ Hid (wx.ownsRow W.heap.size 3 1 v (pendUpto fs i).length ((pendUpto fs i).map (Value.int .i64))) ∧ Hid (Below W.heap.size W wx)) (fun _ s7 _ => m - (intOf s7).toNat)
    case atStart => exact ⟨N, .slice none 0 0, Nat.le_refl _, by omega, rfl, rfl, HO0.out, Below.refl _ _⟩
    case round =>
      obtain ⟨i, v, hi, him, rfl, hv, HW, HB⟩ := hrel
      have hv2 := hv.symm
      subst hv2
      clear HO0
      by_cases hi2 : (i : Int) < m
      · have hl := HTk.out
        have hc : fs[i]? = some fs[i] := List.getElem?_eq_getElem (by omega)
        obtain ⟨b, off, rfl, hlt, hC⟩ := HO.out (by omega)
        generalize fs[i] = r at hc
        obtain ⟨q1, _, _⟩ := (hC.later HB.out hlt) i r hc
        have hnx := pendUpto_next (l := fs) (i := i) (by rw [HN.out]; exact hi)
        have hisw : isWrite fs i = decide (r.kind = 1) := by unfold isWrite; rw [hc]
        rw [hisw] at hnx
        have hpl := pendUpto_len fs i
        clear hl hC hc hisw
        by_cases hr : r.kind = 1
        · rw [hr] at q1
          have hnx' : pendUpto fs (i + 1) = pendUpto fs i ++ [(i : Int)] := by rw [hnx]; simp [hr]
          have HNx : Hid (pendUpto fs (i + 1) = pendUpto fs i ++ [(i : Int)]) := hnx'
          have hown := HW.out
          have hbase := HW.out.lt
          clear hnx hnx' HW
          go_wp2_with (at_builtin; refine wpList_append_own_at _ rfl (.tmp 29) (.tmp 31) 57 rfl W.heap.size 3 i0 (.int .i64 0) 1 8 Try.underlying57 hi0 hz0 hz1 hz2 rfl (by decide) v (pendUpto fs i).length ((pendUpto fs i).map (Value.int .i64)) rfl (hown.alloc _) ⟨wr.heap.size, 0, none⟩ 1 1 [.int .i64 (i : Int)] rfl rfl (cell_one_new _ _ _) (ints_oneCell .i64 [(i : Int)]) (by unfold maxLen; omega) (by omega) (by have := HB.out.size; simp; omega) ?_; intro v' w2 hown2 hg2 hnil hloc)
          have hB2 : Below W.heap.size W w2 := (HB.out.alloc HB.out.size _).grown hg2 (by have := HB.out.size; simp; omega) (fun j hj => (hbase j hj).1)
          refine ⟨⟨i + 1, v', by omega, by omega, by go_num, rfl, ?_, hB2⟩, by simp [intOf]; omega⟩
          rw [HNx.out, List.length_append, List.map_append]
          exact hown2
        · have hnx' : pendUpto fs (i + 1) = pendUpto fs i := by rw [hnx]; simp [hr]
          have HW2 : Hid (wr.ownsRow W.heap.size 3 1 v (pendUpto fs (i + 1)).length ((pendUpto fs (i + 1)).map (Value.int .i64))) := by
            have := HW.out
            rw [hnx']
            exact this
          have hd : decide (r.kind = 1) = false := decide_eq_false hr
          clear hnx hnx' HW
          go_wp2
          exact ⟨⟨i + 1, v, by omega, by omega, by go_num, rfl, HW2.out, HB.out⟩, by simp [intOf]; omega⟩
      · obtain rfl : i = m := by omega
        go_wp2
        go_ret
        exact ⟨v, rfl, HW.out, HB.out⟩
end Go.Proofs.Ytbnbbelkddbndaa
