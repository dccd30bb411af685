/- The document's Pending, place and may: what is pending of the first k ops, where a number stands in a list, whether ops may be of an image; no condition but a bound on the lists' lengths that no list of this program passes. -/
import Derived.Test.YtbnbbelkddbndaaRPendM
namespace Go.Proofs.Ytbnbbelkddbndaa
open Go.RowKit Go.Maps
theorem rpUpto_len (l : List Rec) : ∀ i, (rpUpto l i).length ≤ i
  | 0 => by simp [rpUpto]
  | i + 1 => by
    have ih := rpUpto_len l i
    show (match l[i]? with
      | some r => if r.kind = 1 then rpUpto l i ++ [(i : Int)] else if r.kind = 2 then [] else rpUpto l i
      | none => rpUpto l i).length ≤ _
    split
    · split
      · simp; omega
      · split
        · simp
        · omega
    · omega
set_option maxRecDepth 20000 in
set_option maxHeartbeats 1000000 in
theorem refPending_any (ops : List Rec) (po : Option Addr) (co : Nat) (k : Int) (w : World) (hlo : ops.length < 68719476736) (ho : OpsAt w po ops) :
    Calls Try.prog 45 #[.slice po ops.length co, .int .i64 k] w fun e w' => ∃ v : Value, e = .returned v ∧ w'.ownsRow w.heap.size 3 1 v (rpUpto ops (upTo ops.length k)).length ((rpUpto ops (upTo ops.length k)).map (Value.int .i64)) ∧ Below w.heap.size w w' := by
  obtain ⟨m, hm⟩ : ∃ m, upTo ops.length k = m := ⟨_, rfl⟩
  have hui : (m : Int) = min (max k 0) ops.length := by rw [← hm]; unfold upTo; omega
  rw [hm]
  clear hm
  have HO : Hid (OpsAt w po ops) := ho
  obtain ⟨i0, hi0, hz0, hz1, hz2⟩ := info_parts info3b
  have HO0 : Hid (w.ownsRow w.heap.size 3 1 (.slice none 0 0) (rpUpto ops 0).length ((rpUpto ops 0).map (Value.int .i64))) := World.ownsRow_nil w w.heap.size 3 1
  clear ho
  go_enter Try.func45, Try.ntmps45
  go_wp2
  go_loopw [5, 6] (fun s3 s4 wx => ∃ (i : Nat) (v : Value), i ≤ m ∧ s4 = .int .i64 i ∧ s3 = v ∧ Hid (wx.ownsRow w.heap.size 3 1 v (rpUpto ops i).length ((rpUpto ops i).map (Value.int .i64))) ∧ Hid (Below w.heap.size w wx)) (fun _ s4 _ => m - (intOf s4).toNat)
  case atStart => exact ⟨0, .slice none 0 0, by omega, rfl, rfl, HO0.out, Below.refl _ _⟩
  case round =>
    obtain ⟨i, v, him, rfl, hv, HW, HB⟩ := hrel
    have hv2 := hv.symm
    subst hv2
    clear HO0
    by_cases hi1 : (i : Int) < ops.length
    · by_cases hi2 : (i : Int) < k
      · have hc : ops[i]? = some ops[i] := List.getElem?_eq_getElem (by omega)
        obtain ⟨b, off, rfl, hlt, hC⟩ := HO.out (by omega)
        generalize ops[i] = r at hc
        obtain ⟨q1, _, _⟩ := (hC.later HB.out hlt) i r hc
        have hnx := rpUpto_at hc
        have hpl := rpUpto_len ops i
        clear hC hc
        by_cases hr : r.kind = 1
        · rw [hr] at q1
          have HNx : Hid (rpUpto ops (i + 1) = rpUpto ops i ++ [(i : Int)]) := by rw [hnx, if_pos hr]; exact Hid.mk' rfl
          have hown := HW.out
          have hbase := HW.out.lt
          clear hnx HW
          go_wp2_with (at_builtin; refine wpList_append_own_at _ rfl _ _ 57 rfl w.heap.size 3 i0 (.int .i64 0) 1 8 Try.underlying57 hi0 hz0 hz1 hz2 rfl (by decide) v (rpUpto ops i).length ((rpUpto ops i).map (Value.int .i64)) rfl (hown.alloc _) ⟨wr.heap.size, 0, none⟩ 1 1 [.int .i64 (i : Int)] rfl rfl (cell_one_new _ _ _) (ints_oneCell .i64 [(i : Int)]) (by unfold maxLen; omega) (by omega) (by have := HB.out.size; simp; omega) ?_; intro v' w2 hown2 hg2 hnil hloc)
          have hB2 : Below w.heap.size w w2 := (HB.out.alloc HB.out.size _).grown hg2 (by have := HB.out.size; simp; omega) (fun j hj => (hbase j hj).1)
          refine ⟨⟨i + 1, v', by omega, by go_num, rfl, ?_, hB2⟩, by simp [intOf]; omega⟩
          rw [HNx.out, List.length_append, List.map_append]
          exact hown2
        · by_cases hr2 : r.kind = 2
          · rw [hr2] at q1
            have HNx : Hid (rpUpto ops (i + 1) = []) := by rw [hnx, if_neg hr, if_pos hr2]; exact Hid.mk' rfl
            clear hnx hr hr2 HW
            go_wp2
            refine ⟨⟨i + 1, .slice none 0 0, by omega, by go_num, rfl, ?_, HB.out⟩, by simp [intOf]; omega⟩
            rw [HNx.out]
            exact World.ownsRow_nil wr w.heap.size 3 1
          · have HNx : Hid (rpUpto ops (i + 1) = rpUpto ops i) := by rw [hnx, if_neg hr, if_neg hr2]; exact Hid.mk' rfl
            have hd : decide (r.kind = 1) = false := decide_eq_false hr
            have hd2 : decide (r.kind = 2) = false := decide_eq_false hr2
            clear hnx
            go_wp2
            refine ⟨⟨i + 1, v, by omega, by go_num, rfl, ?_, HB.out⟩, by simp [intOf]; omega⟩
            rw [HNx.out]
            exact HW.out
      · obtain rfl : i = m := by omega
        go_wp2
        go_ret
        exact ⟨v, rfl, HW.out, HB.out⟩
    · obtain rfl : i = m := by omega
      go_wp2
      go_ret
      exact ⟨v, rfl, HW.out, HB.out⟩
end Go.Proofs.Ytbnbbelkddbndaa
