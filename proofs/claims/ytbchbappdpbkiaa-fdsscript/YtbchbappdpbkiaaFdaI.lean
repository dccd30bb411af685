/- The program's table of things of one type: none, refused, free, Get, Len, Full, for a table as a list of what each number stands for; no condition. -/
import Derived.Test.YtbchbappdpbkiaaFd1
import Derived.Test.YtbchbappdpbkiaaSep
import Derived.Test.YtbchbappdpbkiaaOrd
namespace Go.Proofs.Ytbchbappdpbkiaa
open Go.RowKit Go.Maps
def enI : Option Int → List Value
  | none => [.bool false, .int .i64 0]
  | some x => [.bool true, .int .i64 x]
theorem lenI (x : Option Int) : (enI x).length = 2 := by cases x <;> rfl
theorem oneI (x : Option Int) : ∀ u ∈ enI x, u.oneCell' = true := fun u hu => by
  cases x <;> simp [enI] at hu <;> rcases hu with rfl | rfl <;> rfl
theorem infoI : (Try.prog.info? 92).map (fun i => (i.zero, i.size)) = some (some (.agg #[.bool false, .int .i64 0]), 2) := by kernel_rfl
/-- A table's row. -/
def tbI (g : Nat) (m c le : Int) (v : Value) : Array Value := #[.pointer (some ⟨g, 0, none⟩), .int .i64 m, .int .i64 c, .int .i64 le, v]
structure TabI (w : World) (g : Nat) (v : Value) (le : Nat) (m : Int) (R : List (Option Int)) : Prop where
  row : w.heap[g]? = some (.cells (tbI g m (cnt R) le v) 45)
  own : w.ownsRow 0 92 2 v R.length (R.flatMap enI)
  lel : le ≤ lf R
  cnm : (cnt R : Int) ≤ m
  top : m ≤ 9223372036854775807
section
variable {w w' : World} {g le : Nat} {v : Value} {m : Int} {R : List (Option Int)}
theorem TabI.frame (h : TabI w g v le m R) (hg : w'.heap[g]? = w.heap[g]?) (hb : ∀ k, v.ownBlock = some k → w'.heap[k]? = w.heap[k]?) : TabI w' g v le m R := by
  refine ⟨hg.trans h.row, ?_, h.lel, h.cnm, h.top⟩
  obtain ⟨q, h2⟩ := h.own
  refine ⟨q, ?_⟩
  rcases h2 with h2 | ⟨b, cap, cur, rfl, hB, hh, h3⟩
  · exact .inl h2
  · exact .inr ⟨b, cap, cur, rfl, hB, (hb b rfl).trans hh, h3⟩
theorem TabI.lt (h : TabI w g v le m R) : g < w.heap.size := (Array.getElem?_eq_some_iff.1 h.row).1
theorem TabI.vlt (h : TabI w g v le m R) {k : Nat} (hk : v.ownBlock = some k) : k < w.heap.size := by
  rcases own_form h.own with ⟨rfl, _⟩ | ⟨b, c, rfl, hl⟩
  · cases hk
  · injection hk with hk
    rw [← hk]
    exact hl
theorem TabI.later (h : TabI w g v le m R) (hb : Below w.heap.size w w') : TabI w' g v le m R := h.frame (hb.block g h.lt) fun k hk => hb.block k (h.vlt hk)
theorem TabI.cells (h : TabI w g v le m R) : w.cell? ⟨g, 0, none⟩ = some (.pointer (some ⟨g, 0, none⟩)) ∧ w.cell? ⟨g, 1, none⟩ = some (.int .i64 m) ∧ w.cell? ⟨g, 2, none⟩ = some (.int .i64 (cnt R)) ∧ w.cell? ⟨g, 3, none⟩ = some (.int .i64 le) ∧ w.cell? ⟨g, 4, none⟩ = some v :=
  ⟨by rw [cell_of_row w _ _ _ _ _ h.row]; rfl, by rw [cell_of_row w _ _ _ _ _ h.row]; rfl, by rw [cell_of_row w _ _ _ _ _ h.row]; rfl, by rw [cell_of_row w _ _ _ _ _ h.row]; rfl, by rw [cell_of_row w _ _ _ _ _ h.row]; rfl⟩
/-- The rows as they lie: from the beginning of a block. -/
theorem TabI.form (h : TabI w g v le m R) : ∃ p c, v = .slice p R.length c ∧ (∀ k o, R[k]? = some o → ∃ b, p = some ⟨b, 0, none⟩ ∧ b < w.heap.size ∧ ∀ j u, (enI o)[j]? = some u → w.cell? ⟨b, k * 2 + j, none⟩ = some u) := by
  rcases own_form h.own with ⟨rfl, h0⟩ | ⟨b, c, rfl, hl⟩
  · exact ⟨none, 0, by rw [h0], fun k o hk => by have := (List.getElem?_eq_some_iff.1 hk).1; omega⟩
  · exact ⟨_, c, rfl, fun k o hk => ⟨b, rfl, hl, own_get lenI h.own hk⟩⟩
end
theorem neq_sameI (w : World) (a : Addr) : (binOp .neq 23 (.pointer (some a)) (.pointer (some a))).run Try.prog w = .ok (.bool false) w := by
  obtain ⟨j, hj⟩ : ∃ j, Try.prog.info? 45 = some j := Option.isSome_iff_exists.1 (by kernel_rfl)
  have h : ∀ d : Nat, (Op.equalIn (d + 1) 23 (.pointer (some a)) (.pointer (some a))).run Try.prog w = .ok true w := fun d => by
    simp [Op.equalIn, run_underlying Try.underlying23, sizeOf, typeInfo, hj, run_sameAddr_same]
  simp only [binOp]
  simp [Op.equal, Op.maxDepth, h 9999]
theorem neq_nilI (w : World) (a : Addr) : (binOp .neq 23 (.pointer none) (.pointer (some a))).run Try.prog w = .ok (.bool true) w := by
  have h : ∀ d : Nat, (Op.equalIn (d + 1) 23 (.pointer none) (.pointer (some a))).run Try.prog w = .ok false w := fun d => by
    simp [Op.equalIn, run_underlying Try.underlying23]
  simp only [binOp]
  simp [Op.equal, Op.maxDepth, h 9999]
/-- v is a table that is nil, or that nobody made. -/
def NoTabI (w : World) (v : Value) : Prop := v = .pointer none ∨ ∃ g, v = .pointer (some ⟨g, 0, none⟩) ∧ w.cell? ⟨g, 0, none⟩ = some (.pointer none)
theorem none_yesI {w : World} {v : Value} (h : NoTabI w v) : Calls Try.prog 53 #[v] w fun e w' => e = .returned (.bool true) ∧ w' = w := by
  have hn := neq_nilI
  rcases h with rfl | ⟨g, rfl, c0⟩
  · go_enter Try.func53, Try.ntmps53
    go_wp2
    go_ret
    exact ⟨rfl, rfl⟩
  · go_enter Try.func53, Try.ntmps53
    go_wp2
    go_ret
    exact ⟨rfl, rfl⟩
theorem none_noI {w : World} {g : Nat} (c0 : w.cell? ⟨g, 0, none⟩ = some (.pointer (some ⟨g, 0, none⟩))) : Calls Try.prog 53 #[.pointer (some ⟨g, 0, none⟩)] w fun e w' => e = .returned (.bool false) ∧ w' = w := by
  have hn := neq_sameI
  go_enter Try.func53, Try.ntmps53
  go_wp2
  go_ret
  exact ⟨rfl, rfl⟩
theorem refused_noneI {w : World} {v : Value} (h : NoTabI w v) (k : Int) : Calls Try.prog 55 #[v, .int .i64 k] w fun e w' => e = .returned (.int .i64 1) ∧ w' = w := by
  go_enter Try.func55, Try.ntmps55
  go_wp2_with (first | (go_at_call 53; refine (none_yesI h).mono ?_; rintro e W ⟨rfl, rfl⟩))
  go_ret
  exact ⟨rfl, rfl⟩
theorem len_noneI {w : World} {v : Value} (h : NoTabI w v) : Calls Try.prog 28 #[v] w fun e w' => e = .returned (.int .i64 0) ∧ w' = w := by
  go_enter Try.func28, Try.ntmps28
  go_wp2_with (first | (go_at_call 53; refine (none_yesI h).mono ?_; rintro e W ⟨rfl, rfl⟩))
  go_ret
  exact ⟨rfl, rfl⟩
section
variable {w : World} {g le : Nat} {v : Value} {m : Int} {R : List (Option Int)}
theorem refused_okI (h : TabI w g v le m R) (fd : Int) : Calls Try.prog 55 #[.pointer (some ⟨g, 0, none⟩), .int .i64 fd] w fun e w' => e = .returned (.int .i64 (refV R fd)) ∧ w' = w := by
  obtain ⟨c0, c1, c2, c3, c4⟩ := h.cells
  obtain ⟨p, c, rfl, hf⟩ := h.form
  obtain ⟨N, hN⟩ : ∃ N, R.length = N := ⟨_, rfl⟩
  have HN : Hid (R.length = N) := hN
  rw [hN] at c4
  by_cases h0 : fd < 0
  · have q0 : decide (fd < 0) = true := decide_eq_true h0
    have e : refV R fd = 13 := by unfold refV; rw [if_neg (by omega)]
    rw [e]
    clear e hf h
    go_enter Try.func55, Try.ntmps55
    go_wp2_with (first | (go_at_call 53; refine (none_noI c0).mono ?_; rintro e W ⟨rfl, rfl⟩))
    go_ret
    exact ⟨rfl, rfl⟩
  have q0 : decide (fd < 0) = false := decide_eq_false h0
  by_cases h1 : (N : Int) ≤ fd
  · have q1 : decide ((N : Int) ≤ fd) = true := decide_eq_true h1
    have e : refV R fd = 13 := by
      unfold refV
      rw [if_neg]
      rintro ⟨_, q⟩
      have := atR_lt q
      omega
    rw [e]
    clear e hf h
    go_enter Try.func55, Try.ntmps55
    go_wp2_with (first | (go_at_call 53; refine (none_noI c0).mono ?_; rintro e W ⟨rfl, rfl⟩))
    go_ret
    exact ⟨rfl, rfl⟩
  have q1 : decide ((N : Int) ≤ fd) = false := decide_eq_false h1
  obtain ⟨k, rfl⟩ : ∃ k : Nat, fd = k := ⟨fd.toNat, by omega⟩
  have hk : k < N := by omega
  have hx : R[k]? = some R[k] := List.getElem?_eq_getElem (by omega)
  obtain ⟨b, rfl, hb, hc⟩ := hf k _ hx
  cases e : R[k] with
  | none =>
    have er : refV R (k : Int) = 13 := by
      unfold refV
      rw [if_neg]
      rintro ⟨_, q⟩
      rw [show ((k : Int)).toNat = k by omega] at q
      unfold atR at q
      rw [hx, e] at q
      cases q
    rw [er]
    rw [e] at hc
    have b0 := hc 0 _ rfl
    rw [Nat.add_zero] at b0
    clear er hf h e hc hx
    go_enter Try.func55, Try.ntmps55
    go_wp2_with (first | (go_at_call 53; refine (none_noI c0).mono ?_; rintro e W ⟨rfl, rfl⟩))
    go_ret
    exact ⟨rfl, rfl⟩
  | some x =>
    have er : refV R (k : Int) = 0 := refV_held (by rw [hx, e])
    rw [er]
    rw [e] at hc
    have b0 := hc 0 _ rfl
    rw [Nat.add_zero] at b0
    clear er hf h e hc hx
    go_enter Try.func55, Try.ntmps55
    go_wp2_with (first | (go_at_call 53; refine (none_noI c0).mono ?_; rintro e W ⟨rfl, rfl⟩))
    go_ret
    exact ⟨rfl, rfl⟩
theorem len_okI (h : TabI w g v le m R) : Calls Try.prog 28 #[.pointer (some ⟨g, 0, none⟩)] w fun e w' => e = .returned (.int .i64 (cnt R : Nat)) ∧ w' = w := by
  obtain ⟨c0, c1, c2, c3, c4⟩ := h.cells
  generalize cnt R = n at *
  clear h
  go_enter Try.func28, Try.ntmps28
  go_wp2_with (first | (go_at_call 53; refine (none_noI c0).mono ?_; rintro e W ⟨rfl, rfl⟩))
  go_ret
  exact ⟨rfl, rfl⟩
set_option maxRecDepth 20000 in
theorem full_okI (h : TabI w g v le m R) : Calls Try.prog 27 #[.pointer (some ⟨g, 0, none⟩)] w fun e w' => e = .returned (.bool (decide ((cnt R : Int) = m))) ∧ Below w.heap.size w w' := by
  obtain ⟨c0, c1, c2, c3, c4⟩ := h.cells
  generalize cnt R = n at *
  clear h
  go_enter Try.func27, Try.ntmps27
  go_wp2
  go_quiet (first | (go_at_call 53; exact Calls.quiet_of_same (none_noI c0)))
  go_wp2
  go_ret
  exact ⟨rfl, belowN (Below.refl _ _) _⟩
theorem full_noneI {v : Value} (h : NoTabI w v) : Calls Try.prog 27 #[v] w fun e w' => e = .returned (.bool false) ∧ Below w.heap.size w w' := by
  go_enter Try.func27, Try.ntmps27
  go_wp2
  go_quiet (first | (go_at_call 53; exact Calls.quiet_of_same (none_yesI h)))
  go_wp2
  go_ret
  exact ⟨rfl, belowN (Below.refl _ _) _⟩
theorem free_okI (h : TabI w g v le m R) (hl : R.length ≤ 1000000000) : Calls Try.prog 54 #[.pointer (some ⟨g, 0, none⟩)] w fun e w' => e = .returned (.int .i64 (lf R : Nat)) ∧ w' = w := by
  obtain ⟨c0, c1, c2, c3, c4⟩ := h.cells
  obtain ⟨p, c, rfl, hf⟩ := h.form
  have HF : Hid (∀ k o, R[k]? = some o → ∃ b, p = some ⟨b, 0, none⟩ ∧ b < w.heap.size ∧ ∀ j u, (enI o)[j]? = some u → w.cell? ⟨b, k * 2 + j, none⟩ = some u) := hf
  have HR : Hid (∃ Q, Q = R) := ⟨_, rfl⟩
  have hle := h.lel
  have hll := lf_le R
  have hhe := lf_held R
  have hfr := lf_free R
  have HH : Hid (∀ i, i < lf R → ∃ x, R[i]? = some (some x)) := hhe
  have HE : Hid (lf R < R.length → R[lf R]? = some none) := hfr
  generalize lf R = n at *
  generalize R.length = N at *
  clear h hf hhe hfr
  go_enter Try.func54, Try.ntmps54
  go_wp2
  go_loopw [3] (fun s3 wx => ∃ k : Nat, k ≤ n ∧ s3 = .int .i64 k ∧ wx = w) (fun s3 _ => n - (intOf s3).toNat)
  case atStart => exact ⟨le, by omega, rfl, rfl⟩
  case round =>
    obtain ⟨k, hk, rfl, rfl⟩ := hrel
    by_cases hk2 : k < n
    · obtain ⟨x, hx⟩ := HH.out k hk2
      obtain ⟨b, rfl, hb, hc⟩ := HF.out k _ hx
      have b0 := hc 0 _ rfl
      rw [Nat.add_zero] at b0
      have hkN : k < N := by omega
      clear hc hx
      go_wp2
      go_roundw
      case rel => exact ⟨k + 1, by omega, by go_num, trivial⟩
      case measure => simp [intOf]; omega
    · obtain rfl : k = n := by omega
      by_cases hkN : k < N
      · have hx := HE.out hkN
        obtain ⟨b, rfl, hb, hc⟩ := HF.out k _ hx
        have b0 := hc 0 _ rfl
        rw [Nat.add_zero] at b0
        clear hc hx
        go_wp2
        go_ret
        exact ⟨rfl, rfl⟩
      · go_wp2
        go_ret
        exact ⟨rfl, rfl⟩
end
end Go.Proofs.Ytbchbappdpbkiaa
