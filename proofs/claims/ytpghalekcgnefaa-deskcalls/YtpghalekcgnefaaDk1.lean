/- The program's desk: none, New, Hold, Drop, Holds, Len, Full, for a desk that holds fewer than a million inodes, fewer than a million times each; no other condition. -/
import Derived.Test.YtpghalekcgnefaaDk0
namespace Go.Proofs.Ytpghalekcgnefaa
open Go.RowKit Go.Maps
theorem lawI : Keyed Try.prog 3 := int_keyed Try.underlying3
theorem zeroI (w : World) : (zeroValue 3).run Try.prog w = .ok (.int .i64 0) w := by kernel_rfl
theorem wfI {k : Int} (h1 : -9223372036854775808 ≤ k) (h2 : k ≤ 9223372036854775807) : (Lit.int .i64 k).wf = true := WalkArith.wf_i64 (by omega)
/-- A desk's row. -/
def dkRow (g b : Nat) (m : Int) : Array Value := #[.pointer (some ⟨g, 0, none⟩), .int .i64 m, .map (some b)]
structure DeskAt (w : World) (g b : Nat) (m : Int) (L : List (Int × Int)) : Prop where
  row : w.heap[g]? = some (.cells (dkRow g b m) 47)
  map : w.ownsMap Try.prog 3 (plainElem Try.prog 3) b L.length (dM L)
theorem own_tight {w : World} {b n : Nat} {L : List (Int × Int)} (h : w.ownsMap Try.prog 3 (plainElem Try.prog 3) b n (dM L)) : w.ownsMap Try.prog 3 (plainElem Try.prog 3) b L.length (dM L) := by
  obtain ⟨es, clock, hb, F, _, hD⟩ := h
  refine ⟨es, clock, hb, F, ?_, hD⟩
  have := congrArg Maps.size hD
  rw [dM_size] at this
  simp [Maps.size, length_sorted] at this
  omega
theorem DeskAt.ne {w : World} {g b : Nat} {m : Int} {L : List (Int × Int)} (h : DeskAt w g b m L) : g ≠ b := fun e => by
  obtain ⟨es, clock, hb, _⟩ := h.map
  have := h.row
  rw [e, hb] at this
  cases this
theorem DeskAt.lt {w : World} {g b : Nat} {m : Int} {L : List (Int × Int)} (h : DeskAt w g b m L) : g < w.heap.size ∧ b < w.heap.size := ⟨(Array.getElem?_eq_some_iff.1 h.row).1, h.map.lt⟩
theorem DeskAt.frame {w w' : World} {g b : Nat} {m : Int} {L : List (Int × Int)} (h : DeskAt w g b m L) (hg : w'.heap[g]? = w.heap[g]?) (hb : w'.heap[b]? = w.heap[b]?) : DeskAt w' g b m L := by
  obtain ⟨es, clock, h1, F, h2, hD⟩ := h.map
  exact ⟨hg.trans h.row, es, clock, hb.trans h1, F, h2, hD⟩
theorem DeskAt.later {w w' : World} {g b : Nat} {m : Int} {L : List (Int × Int)} (h : DeskAt w g b m L) (hb : Below w.heap.size w w') : DeskAt w' g b m L := h.frame (hb.block g h.lt.1) (hb.block b h.lt.2)
theorem DeskAt.cells {w : World} {g b : Nat} {m : Int} {L : List (Int × Int)} (h : DeskAt w g b m L) : w.cell? ⟨g, 0, none⟩ = some (.pointer (some ⟨g, 0, none⟩)) ∧ w.cell? ⟨g, 1, none⟩ = some (.int .i64 m) ∧ w.cell? ⟨g, 2, none⟩ = some (.map (some b)) :=
  ⟨by rw [cell_of_row w _ _ _ _ _ h.row]; rfl, by rw [cell_of_row w _ _ _ _ _ h.row]; rfl, by rw [cell_of_row w _ _ _ _ _ h.row]; rfl⟩
theorem neq_same {P : Program} {tp te : TypeId} {j : TypeInfo} (w : World) (a : Addr) (hp : P.underlying tp = some (.pointer te)) (hte : P.info? te = some j) :
    (binOp .neq tp (.pointer (some a)) (.pointer (some a))).run P w = .ok (.bool false) w := by
  have h : ∀ d : Nat, (Op.equalIn (d + 1) tp (.pointer (some a)) (.pointer (some a))).run P w = .ok true w := fun d => by
    simp [Op.equalIn, run_underlying hp, sizeOf, typeInfo, hte, run_sameAddr_same]
  simp only [binOp]
  simp [Op.equal, Op.maxDepth, h 9999]
theorem neq_nil {P : Program} {tp te : TypeId} (w : World) (a : Addr) (hp : P.underlying tp = some (.pointer te)) :
    (binOp .neq tp (.pointer none) (.pointer (some a))).run P w = .ok (.bool true) w := by
  have h : ∀ d : Nat, (Op.equalIn (d + 1) tp (.pointer none) (.pointer (some a))).run P w = .ok false w := fun d => by
    simp [Op.equalIn, run_underlying hp]
  simp only [binOp]
  simp [Op.equal, Op.maxDepth, h 9999]
theorem infoDk : ∃ j, Try.prog.info? 47 = some j := Option.isSome_iff_exists.1 (by kernel_rfl)
theorem neqDk (w : World) (a : Addr) : (binOp .neq 23 (.pointer (some a)) (.pointer (some a))).run Try.prog w = .ok (.bool false) w := by
  obtain ⟨j, hj⟩ := infoDk
  exact neq_same w a Try.underlying23 hj
theorem neqDkn (w : World) (a : Addr) : (binOp .neq 23 (.pointer none) (.pointer (some a))).run Try.prog w = .ok (.bool true) w := neq_nil w a Try.underlying23
/-- v is a desk that is nil, or that nobody made. -/
def NoDesk (w : World) (v : Value) : Prop := v = .pointer none ∨ ∃ g, v = .pointer (some ⟨g, 0, none⟩) ∧ w.cell? ⟨g, 0, none⟩ = some (.pointer none)
theorem none_yes {w : World} {v : Value} (h : NoDesk w v) : Calls Try.prog 26 #[v] w fun e w' => e = .returned (.bool true) ∧ w' = w := by
  have hn := neqDkn
  rcases h with rfl | ⟨g, rfl, c0⟩
  · go_enter Try.func26, Try.ntmps26
    go_wp2
    go_ret
    exact ⟨rfl, rfl⟩
  · go_enter Try.func26, Try.ntmps26
    go_wp2
    go_ret
    exact ⟨rfl, rfl⟩
theorem none_no {w : World} {g : Nat} (c0 : w.cell? ⟨g, 0, none⟩ = some (.pointer (some ⟨g, 0, none⟩))) : Calls Try.prog 26 #[.pointer (some ⟨g, 0, none⟩)] w fun e w' => e = .returned (.bool false) ∧ w' = w := by
  have hn := neqDk
  go_enter Try.func26, Try.ntmps26
  go_wp2
  go_ret
  exact ⟨rfl, rfl⟩
theorem hold_none {w : World} {v : Value} (h : NoDesk w v) (k : Int) : Calls Try.prog 13 #[v, .int .i64 k] w fun e w' => e = .returned (.int .i64 1) ∧ w' = w := by
  go_enter Try.func13, Try.ntmps13
  go_wp2_with (first | (go_at_call 26; refine (none_yes h).mono ?_; rintro e W ⟨rfl, rfl⟩))
  go_ret
  exact ⟨rfl, rfl⟩
theorem drop_none {w : World} {v : Value} (h : NoDesk w v) (k : Int) : Calls Try.prog 15 #[v, .int .i64 k] w fun e w' => e = .returned (.tuple #[.bool false, .int .i64 1]) ∧ w' = w := by
  go_enter Try.func15, Try.ntmps15
  go_wp2_with (first | (go_at_call 26; refine (none_yes h).mono ?_; rintro e W ⟨rfl, rfl⟩))
  go_ret2
  exact ⟨rfl, rfl⟩
theorem holds_none {w : World} {v : Value} (h : NoDesk w v) (k : Int) : Calls Try.prog 16 #[v, .int .i64 k] w fun e w' => e = .returned (.int .i64 0) ∧ w' = w := by
  go_enter Try.func16, Try.ntmps16
  go_wp2_with (first | (go_at_call 26; refine (none_yes h).mono ?_; rintro e W ⟨rfl, rfl⟩))
  go_ret
  exact ⟨rfl, rfl⟩
theorem len_none {w : World} {v : Value} (h : NoDesk w v) : Calls Try.prog 17 #[v] w fun e w' => e = .returned (.int .i64 0) ∧ w' = w := by
  go_enter Try.func17, Try.ntmps17
  go_wp2_with (first | (go_at_call 26; refine (none_yes h).mono ?_; rintro e W ⟨rfl, rfl⟩))
  go_ret
  exact ⟨rfl, rfl⟩
theorem rising_none {w : World} {v : Value} (h : NoDesk w v) : Calls Try.prog 27 #[v] w fun e w' => e = .returned (.slice none 0 0) ∧ w' = w := by
  go_enter Try.func27, Try.ntmps27
  go_wp2_with (first | (go_at_call 26; refine (none_yes h).mono ?_; rintro e W ⟨rfl, rfl⟩))
  go_ret
  exact ⟨rfl, rfl⟩
section
variable {w : World} {g b : Nat} {m : Int} {L : List (Int × Int)}
theorem holds_ok (h : DeskAt w g b m L) (k : Int) (hk : (Lit.int .i64 k).wf = true) : Calls Try.prog 16 #[.pointer (some ⟨g, 0, none⟩), .int .i64 k] w fun e w' => e = .returned (.int .i64 ((getH L k).getD 0)) ∧ w' = w := by
  obtain ⟨c0, c1, c2⟩ := h.cells
  obtain ⟨c, hrun, hat, _⟩ := h.map.lookup_int lawI Try.underlying45 Try.underlying3 (zeroI w) (keyOf_int_mk Try.underlying3 hk)
  rw [dM_at] at hat
  injection hat with hat
  injection hat with _ hat
  rw [hat]
  clear hat h
  go_enter Try.func16, Try.ntmps16
  go_wp2_with (first | (go_at_call 26; refine (none_no c0).mono ?_; rintro e W ⟨rfl, rfl⟩))
  go_ret
  exact ⟨rfl, rfl⟩
theorem len_ok (h : DeskAt w g b m L) : Calls Try.prog 17 #[.pointer (some ⟨g, 0, none⟩)] w fun e w' => e = .returned (.int .i64 (L.length : Nat)) ∧ w' = w := by
  obtain ⟨c0, c1, c2⟩ := h.cells
  have hl : ∀ ty, (Builtin.len_ #[45] ty #[.map (some b)]).run Try.prog w = .ok (.int .i64 (L.length : Nat)) w := fun ty => by
    have := World.ownsMap.len h.map Try.underlying45 ty
    rwa [dM_size] at this
  generalize L.length = n at *
  clear h
  go_enter Try.func17, Try.ntmps17
  go_wp2_with (first | (go_at_call 26; refine (none_no c0).mono ?_; rintro e W ⟨rfl, rfl⟩))
  go_ret
  exact ⟨rfl, rfl⟩
set_option maxRecDepth 20000 in
theorem full_ok (h : DeskAt w g b m L) : Calls Try.prog 14 #[.pointer (some ⟨g, 0, none⟩)] w fun e w' => e = .returned (.bool (fullB m L)) ∧ Below w.heap.size w w' := by
  have HD : Hid (∀ q, DeskAt (w.drewN q) g b m L) := fun q => h.frame rfl rfl
  obtain ⟨c0, c1, c2⟩ := h.cells
  have hl : ∀ ty q, (Builtin.len_ #[45] ty #[.map (some b)]).run Try.prog (w.drewN q) = .ok (.int .i64 (L.length : Nat)) (w.drewN q) := fun ty q => by
    have := World.ownsMap.len (HD.out q).map Try.underlying45 ty
    rwa [dM_size] at this
  unfold fullB
  generalize L.length = n at *
  clear h
  go_enter Try.func14, Try.ntmps14
  go_wp2
  go_quiet (first | (go_at_call 26; exact Calls.quiet_of_same (none_no c0)))
  go_wp2
  go_ret
  exact ⟨rfl, belowN (Below.refl _ _) _⟩
theorem desk_new (n : Int) (w : World) : Calls Try.prog 7 #[.int .i64 n] w fun e w' => ∃ g b, e = .returned (.pointer (some ⟨g, 0, none⟩)) ∧ DeskAt w' g b (max n 0) [] ∧ Below w.heap.size w w' ∧ w.heap.size ≤ g ∧ w.heap.size ≤ b := by
  have hmm := @run_makeMap Try.prog
  go_enter Try.func7, Try.ntmps7
  go_wp2
  all_goals go_ret
  all_goals refine ⟨_, rfl, _, ⟨?_, (World.ownsMap_made w _ _ _).alloc _⟩, (below_new w _).trans ((below_new _ _).mono (by simp)), by omega, Nat.le_refl _⟩
  · rw [show max n 0 = 0 by omega]
    have := heap_alloc_new (w.alloc (.map #[] 0)) (.cells (dkRow (w.heap.size + 1) w.heap.size 0) 47)
    rwa [World.size_alloc] at this
  · rw [show max n 0 = n by omega]
    have := heap_alloc_new (w.alloc (.map #[] 0)) (.cells (dkRow (w.heap.size + 1) w.heap.size n) 47)
    rwa [World.size_alloc] at this
theorem hold_ok {c : Nat} (h : DeskAt w g b m L) (ho : Dok m L c) (hc : c < 1000000) (k : Int) (hk : (Lit.int .i64 k).wf = true) : Calls Try.prog 13 #[.pointer (some ⟨g, 0, none⟩), .int .i64 k] w fun e w' => e = .returned (.int .i64 (holdE m L k)) ∧ DeskAt w' g b m (holdL m L k) ∧ Fr (fun i => i = b) w w' := by
  obtain ⟨c0, c1, c2⟩ := h.cells
  have HD : Hid (DeskAt w g b m L) := h
  have HO : Hid (Dok m L c) := ho
  have hkey := keyOf_int_mk Try.underlying3 hk
  have hn := fun W (q : W.cell? ⟨g, 0, none⟩ = some (.pointer (some ⟨g, 0, none⟩))) => none_no (w := W) q
  obtain ⟨v, hrun, hat, hwv⟩ := h.map.lookup_int lawI Try.underlying45 Try.underlying3 (zeroI w) hkey
  rw [dM_at] at hat
  injection hat with hat
  injection hat with _ hat
  have hf := full_ok h
  unfold holdE holdL
  by_cases hk1 : k < 1
  · have g1 : decide (k < 1) = true := decide_eq_true hk1
    rw [if_pos hk1, if_pos hk1]
    clear h ho hat hf
    go_enter Try.func13, Try.ntmps13
    go_wp2_with (first | (go_at_call 26; refine (none_no c0).mono ?_; rintro e W ⟨rfl, rfl⟩))
    go_ret
    exact ⟨rfl, HD.out, Fr.refl _ _⟩
  · have g1 : decide (k < 1) = false := decide_eq_false hk1
    rw [if_neg hk1, if_neg hk1]
    have hlen : L.length < maxLen := by have := ho.lec; unfold maxLen; omega
    cases e : getH L k with
    | some u =>
      have hu := ho.val _ (get_some e)
      simp only at hu
      rw [e] at hat
      simp only [Option.getD_some] at hat
      subst hat
      have g2 : (u == 0) = false := by simp; omega
      have hown := h.map
      have hw1 : (Lit.int .i64 (u + 1)).wf = true := WalkArith.wf_i64 (by omega)
      simp only
      clear h ho hf
      go_enter Try.func13, Try.ntmps13
      go_wp2_with (first | (go_at_call 26; refine (none_no c0).mono ?_; rintro e W ⟨rfl, rfl⟩) | (at_mapUpdate; refine wpList_mapUpdate_own _ rfl _ _ _ 45 rfl 3 3 lawI Try.underlying45 _ b _ _ rfl hown hlen _ _ _ rfl rfl hkey _ [] (plainElem_int Try.underlying3 hw1) ?_; intro w1 hown1 hgrow1))
      go_ret
      refine ⟨rfl, ⟨(hgrow1.block g HD.out.lt.1 (by simpa using HD.out.ne)).trans HD.out.row, ?_⟩, (Fr.ofGrown hgrow1).mono fun i _ q => (Option.some.inj q).symm⟩
      rw [dM_put] at hown1
      exact own_tight hown1
    | none =>
      rw [e] at hat
      simp only [Option.getD_none] at hat
      subst hat
      simp only
      by_cases hfl : (L.length : Int) = m
      · rw [if_pos hfl, if_pos hfl]
        rw [show fullB m L = true from decide_eq_true hfl] at hf
        clear h ho
        go_enter Try.func13, Try.ntmps13
        go_wp2_with (first | (go_at_call 26; refine (none_no c0).mono ?_; rintro e W ⟨rfl, rfl⟩) | (go_at_call 14; refine hf.mono ?_; rintro e W1 ⟨rfl, hb⟩))
        go_ret
        exact ⟨rfl, HD.out.later hb, Fr.ofBelow hb⟩
      · rw [if_neg hfl, if_neg hfl]
        rw [show fullB m L = false from decide_eq_false hfl] at hf
        have hw1 : (Lit.int .i64 1).wf = true := WalkArith.wf_i64 (by omega)
        clear h ho
        go_enter Try.func13, Try.ntmps13
        go_wp2_with (first | (go_at_call 26; refine (none_no c0).mono ?_; rintro e W ⟨rfl, rfl⟩) | (go_at_call 14; fail))
        refine hf.mono ?_
        rintro e W1 ⟨rfl, hb⟩
        have hD1 := HD.out.later hb
        have hF1 : Fr (fun i => i = b) _ W1 := Fr.ofBelow hb
        obtain ⟨d0, d1, d2⟩ := hD1.cells
        have hown := hD1.map
        obtain ⟨v', hrun', hat', _⟩ := hD1.map.lookup_int lawI Try.underlying45 Try.underlying3 (zeroI W1) hkey
        rw [dM_at, e] at hat'
        injection hat' with hat'
        injection hat' with _ hat'
        simp only [Option.getD_none] at hat'
        subst hat'
        have HD1 : Hid (DeskAt W1 g b m L) := hD1
        have HF1 : Hid (Fr (fun i => i = b) _ W1) := hF1
        clear c0 c1 c2 hrun HD hb hF1 hD1
        go_wp2_with (first | (at_mapUpdate; refine wpList_mapUpdate_own _ rfl _ _ _ 45 rfl 3 3 lawI Try.underlying45 _ b _ _ rfl hown hlen _ _ _ rfl rfl hkey _ [] (plainElem_int Try.underlying3 hw1) ?_; intro w1 hown1 hgrow1))
        go_ret
        refine ⟨rfl, ⟨(hgrow1.block g HD1.out.lt.1 (by simpa using HD1.out.ne)).trans HD1.out.row, ?_⟩, HF1.out.trans ((Fr.ofGrown hgrow1).mono fun i _ q => (Option.some.inj q).symm) fun _ _ q => q⟩
        rw [dM_put] at hown1
        exact own_tight hown1
theorem drop_ok {c : Nat} (h : DeskAt w g b m L) (ho : Dok m L c) (hc : c < 1000000) (k : Int) (hk : (Lit.int .i64 k).wf = true) : Calls Try.prog 15 #[.pointer (some ⟨g, 0, none⟩), .int .i64 k] w fun e w' => e = .returned (.tuple #[.bool (dropB L k), .int .i64 (dropE L k)]) ∧ DeskAt w' g b m (dropL L k) ∧ Fr (fun i => i = b) w w' := by
  obtain ⟨c0, c1, c2⟩ := h.cells
  have HD : Hid (DeskAt w g b m L) := h
  have hkey := keyOf_int_mk Try.underlying3 hk
  have hlen : L.length < maxLen := by have := ho.lec; unfold maxLen; omega
  obtain ⟨v, ps, hrun, hv⟩ := h.map.look_ok lawI Try.underlying45 (zeroI w) (plainElem_int Try.underlying3 (WalkArith.wf_i64 (n := 0) (by omega))) hkey
  rw [dM_at] at hv
  obtain ⟨v', rfl, hc', hwv⟩ := plainElem_int_inv Try.underlying3 hv
  simp only [Prod.mk.injEq, DataW.lit.injEq, Lit.int.injEq, true_and] at hc'
  obtain ⟨hat, _⟩ := hc'
  rw [dM_has] at hrun
  clear hv
  have hown := h.map
  unfold dropB dropE dropL
  cases e : getH L k with
  | none =>
    rw [e] at hrun
    simp only [Option.isSome_none] at hrun
    clear h ho hat
    go_enter Try.func15, Try.ntmps15
    go_wp2_with (first | (go_at_call 26; refine (none_no c0).mono ?_; rintro e W ⟨rfl, rfl⟩))
    go_ret2
    exact ⟨rfl, HD.out, Fr.refl _ _⟩
  | some u =>
    have hu := ho.val _ (get_some e)
    simp only at hu
    rw [e] at hrun hat
    simp only [Option.isSome_some, Option.getD_some] at hrun hat
    subst hat
    by_cases h1 : 1 < u
    · have g1 : decide (1 < u) = true := decide_eq_true h1
      have hw1 : (Lit.int .i64 (u - 1)).wf = true := WalkArith.wf_i64 (by omega)
      simp only [if_pos h1]
      rw [show decide (¬ 1 < u) = false by simp; omega]
      clear h ho
      go_enter Try.func15, Try.ntmps15
      go_wp2_with (first | (go_at_call 26; refine (none_no c0).mono ?_; rintro e W ⟨rfl, rfl⟩) | (at_mapUpdate; refine wpList_mapUpdate_own _ rfl _ _ _ 45 rfl 3 3 lawI Try.underlying45 _ b _ _ rfl hown hlen _ _ _ rfl rfl hkey _ [] (plainElem_int Try.underlying3 hw1) ?_; intro w1 hown1 hgrow1))
      go_ret2
      refine ⟨rfl, ⟨(hgrow1.block g HD.out.lt.1 (by simpa using HD.out.ne)).trans HD.out.row, ?_⟩, (Fr.ofGrown hgrow1).mono fun i _ q => (Option.some.inj q).symm⟩
      rw [dM_put] at hown1
      exact own_tight hown1
    · have g1 : decide (1 < u) = false := decide_eq_false h1
      simp only [if_neg h1]
      rw [show decide (¬ 1 < u) = true by simp; omega]
      clear h ho
      go_enter Try.func15, Try.ntmps15
      go_wp2_with (first | (go_at_call 26; refine (none_no c0).mono ?_; rintro e W ⟨rfl, rfl⟩) | (at_delete; refine wpList_delete_own _ rfl _ _ 45 3 rfl 3 lawI Try.underlying45 _ b _ _ rfl hown _ _ rfl hkey ?_; intro w1 hown1 hturn1))
      go_ret2
      have hgrow1 := hturn1.grown
      refine ⟨rfl, ⟨(hgrow1.block g HD.out.lt.1 (by simpa using HD.out.ne)).trans HD.out.row, ?_⟩, (Fr.ofGrown hgrow1).mono fun i _ q => (Option.some.inj q).symm⟩
      rw [dM_del] at hown1
      exact own_tight hown1
end
end Go.Proofs.Ytpghalekcgnefaa
