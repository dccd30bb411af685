/- The laws' own function fits: may a play be? For every play. -/
import Derived.Test.YtahaiciciljijaaLRead
namespace Go.Proofs.Ytahaiciciljijaa
open Go.RowKit Go.Maps
/-- Slices that lie one behind the other. -/
def StepsAt (w : World) (p : Option Addr) (ss : List (Option Addr × Nat × Nat)) : Prop := 0 < ss.length → ∃ b off, p = some ⟨b, off, none⟩ ∧ b < w.heap.size ∧ ∀ j s, ss[j]? = some s → w.cell? ⟨b, off + j, none⟩ = some (.slice s.1 s.2.1 s.2.2)
theorem StepsAt.later {w W : World} {p : Option Addr} {l : List (Option Addr × Nat × Nat)} (h : StepsAt w p l) (hb : Below w.heap.size w W) : StepsAt W p l := fun h0 => by
  obtain ⟨b, off, h1, h2, h3⟩ := h h0
  exact ⟨b, off, h1, Nat.lt_of_lt_of_le h2 hb.size, fun j x hx => (hb.cell (p := ⟨b, off + j, none⟩) h2).trans (h3 j x hx)⟩
def playA (b l i : Int) (p : Option Addr) (n c : Nat) (p2 : Option Addr) (n2 c2 : Nat) (st : Int) (p3 : Option Addr) (n3 c3 : Nat) (ag : Int) (p4 : Option Addr) (n4 c4 : Nat) : Array Value := #[.int .i64 b, .int .i64 l, .int .i64 i, .slice p n c, .slice p2 n2 c2, .int .i64 st, .slice p3 n3 c3, .int .i64 ag, .slice p4 n4 c4]
def fitsB (b l i : Int) (ss : List (Option Addr × Nat × Nat)) : Bool := decide (H.Fine b l i ∧ b ≤ 300 ∧ ss.length ≤ 40 ∧ ∀ s ∈ ss, s.2.1 ≤ 31)
set_option maxRecDepth 20000 in
set_option maxHeartbeats 2000000 in
theorem fits_any (b l i : Int) (p : Option Addr) (ss : List (Option Addr × Nat × Nat)) (c : Nat) (p2 : Option Addr) (n2 c2 : Nat) (st : Int) (p3 : Option Addr) (n3 c3 : Nat) (ag : Int) (p4 : Option Addr) (n4 c4 : Nat) (w : World) (h : StepsAt w p ss) (hl : ss.length ≤ 9223372036854775807) : Calls Try.prog 13 #[.agg (playA b l i p ss.length c p2 n2 c2 st p3 n3 c3 ag p4 n4 c4)] w fun e w' => e = .returned (.bool (fitsB b l i ss)) ∧ Below w.heap.size w w' := by
  have hc := fun w => H.refOf_any b l i w
  obtain ⟨x0, x1, x2, x3, x4, x5, x6, x7, x8, hv⟩ := ofV_nine b l i
  rw [hv] at hc
  obtain ⟨n, hn⟩ : ∃ n, ss.length = n := ⟨_, rfl⟩
  have HT : Hid (StepsAt w p ss ∧ ss.length = n) := ⟨h, hn⟩
  rw [hn] at hl ⊢
  generalize hres : fitsB b l i ss = res
  have HR : Hid (fitsB b l i ss = res) := hres
  have HE : Hid (H.ofE b l i = if H.Fine b l i then 0 else 2) := rfl
  generalize H.ofE b l i = E at *
  clear h hn hres hv
  unfold H.geoV H.lay9 playA at *
  go_enter Try.func13, Try.ntmps13
  go_wp2_with (first | (go_at_call 14; fail))
  refine (hc _).mono ?_
  rintro e W1 ⟨rfl, hb1⟩
  have h0 := heap_kept (heap_alloc_new w _) hb1
  have HB1 : Hid (Below w.heap.size w W1) := below_next (below_new _ _) hb1
  clear hb1 hc
  have HB2 : ∀ o, Hid (Below w.heap.size w (W1.alloc o)) := fun o => H.bel_al HB1.out _
  have c0 : ∀ o, (W1.alloc o).cell? ⟨w.heap.size, 0, none⟩ = some (.int .i64 b) := fun o => Joins.cell_of_block (heap_kept h0 (below_new W1 o)) 0
  have c3 : ∀ o, (W1.alloc o).cell? ⟨w.heap.size, 3, none⟩ = some (.slice p n c) := fun o => Joins.cell_of_block (heap_kept h0 (below_new W1 o)) 3
  clear h0
  by_cases hF : H.Fine b l i
  · obtain rfl : E = 0 := by rw [HE.out, if_pos hF]
    by_cases hb : b ≤ 300
    · by_cases hn : n ≤ 40
      · have HF : Hid (H.Fine b l i ∧ b ≤ 300) := ⟨hF, hb⟩
        clear hF HE
        go_wp2_with (first | (with_reducible refine H.isStore 31 ?_; refine H.wpList_storeL_new rfl _ _ rfl _ _ rfl rfl (by simp [Value.oneCell']) _ rfl rfl rfl ?_))
        have c3' := c3 (.cells #[.int .i64 x0, .int .i64 x1, .int .i64 x2, .int .i64 x3, .int .i64 x4, .int .i64 x5, .int .i64 x6, .int .i64 x7, .int .i64 x8] 31)
        have HB3 := HB2 (.cells #[.int .i64 x0, .int .i64 x1, .int .i64 x2, .int .i64 x3, .int .i64 x4, .int .i64 x5, .int .i64 x6, .int .i64 x7, .int .i64 x8] 31)
        clear c0 c3 HB2
        generalize W1.alloc (.cells #[.int .i64 x0, .int .i64 x1, .int .i64 x2, .int .i64 x3, .int .i64 x4, .int .i64 x5, .int .i64 x6, .int .i64 x7, .int .i64 x8] 31) = W2 at *
        go_loopw [5] (fun s5 wx => ∃ k : Nat, k ≤ n ∧ s5 = .int .i64 k ∧ wx = W2 ∧ Hid (∀ s ∈ ss.take k, s.2.1 ≤ 31)) (fun s5 _ => n - (intOf s5).toNat)
        case atStart => exact ⟨0, by omega, rfl, rfl, (by intro s q; rw [List.take_zero] at q; exact absurd q List.not_mem_nil : ∀ s ∈ ss.take 0, s.2.1 ≤ 31)⟩
        case round =>
          obtain ⟨k, hk, rfl, rfl, HN⟩ := hrel
          by_cases hk2 : (k : Int) < n
          · obtain ⟨hts, hn1⟩ := HT.out
            have hx : ss[k]? = some ss[k] := List.getElem?_eq_getElem (by omega)
            have htk : ss.take (k + 1) = ss.take k ++ [ss[k]] := by rw [List.take_add_one, hx]; rfl
            have hmem : ss[k] ∈ ss := List.getElem_mem _
            obtain ⟨b1, o1, rfl, l1, C1⟩ := (hts.later HB3.out) (by omega)
            have q1 := C1 k _ hx
            generalize ss[k] = z at hx htk hmem q1
            obtain ⟨z1, z2, z3⟩ := z
            have HM : Hid (ss.take (k + 1) = ss.take k ++ [(z1, z2, z3)] ∧ (z1, z2, z3) ∈ ss) := ⟨htk, hmem⟩
            dsimp only at q1
            clear hts hx htk hmem C1 hn1
            by_cases hz : z2 ≤ 31
            · go_wp2
              refine ⟨⟨k + 1, by omega, by go_num, (by first | trivial | rfl), ?_⟩, by simp [intOf]; omega⟩
              show ∀ s ∈ ss.take (k + 1), s.2.1 ≤ 31
              rw [HM.out.1]
              intro s q
              rcases List.mem_append.1 q with q | q
              · exact HN.out s q
              · simp only [List.mem_cons, List.not_mem_nil, or_false] at q
                rw [q]; exact hz
            · go_wp2
              go_ret
              exact ⟨H.ret_bool (by rw [← HR.out]; exact (decide_eq_false fun q => hz (q.2.2.2 _ HM.out.2)).symm), HB3.out⟩
          · obtain rfl : k = n := by omega
            go_wp2
            go_ret
            refine ⟨H.ret_bool ?_, HB3.out⟩
            rw [← HR.out]
            have hq := HN.out
            rw [← HT.out.2, List.take_length] at hq
            exact (decide_eq_true ⟨HF.out.1, HF.out.2, by rw [HT.out.2]; exact hn, hq⟩).symm
      · go_wp2_with (first | (with_reducible refine H.isStore 31 ?_; refine H.wpList_storeL_new rfl _ _ rfl _ _ rfl rfl (by simp [Value.oneCell']) _ rfl rfl rfl ?_))
        go_ret
        exact ⟨H.ret_bool (by rw [← HR.out]; exact (decide_eq_false fun q => hn (by have := q.2.2.1; rw [HT.out.2] at this; exact this)).symm), (HB2 _).out⟩
    · go_wp2_with (first | (with_reducible refine H.isStore 31 ?_; refine H.wpList_storeL_new rfl _ _ rfl _ _ rfl rfl (by simp [Value.oneCell']) _ rfl rfl rfl ?_))
      go_ret
      exact ⟨H.ret_bool (by rw [← HR.out]; exact (decide_eq_false fun q => absurd q.2.1 (by omega)).symm), (HB2 _).out⟩
  · obtain rfl : E = 2 := by rw [HE.out, if_neg hF]
    go_wp2_with (first | (with_reducible refine H.isStore 31 ?_; refine H.wpList_storeL_new rfl _ _ rfl _ _ rfl rfl (by simp [Value.oneCell']) _ rfl rfl rfl ?_))
    go_ret
    exact ⟨H.ret_bool (by rw [← HR.out]; exact (decide_eq_false fun q => hF q.1).symm), (HB2 _).out⟩
end Go.Proofs.Ytahaiciciljijaa
