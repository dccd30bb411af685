/- The law NodeCheck walked: the program's Check and the document's answer the same; for every geometry, turn and inode. -/
import Derived.Test.YtohknfoljnddjaaRefMay
import Derived.Test.YtohknfoljnddjaaRefOf
namespace Go.Proofs.Ytohknfoljnddjaa
open Go.RowKit

set_option maxRecDepth 20000 in
set_option maxHeartbeats 1000000 in
theorem refCheck_any (B L I a c dd e f lo : Int) (k l s b : Int) (d : Nat → Int) (w : World) (h : NodeOk k l s b d) :
    Calls Try.prog 17 #[.agg (lay9 B L I a c dd e f lo), .agg (node16 k l s b d)] w fun e' w' => e' = .returned (.int .i64 (checkE B L I a c dd e f lo k l s b d)) ∧ Below w.heap.size w w' := by
  have c1 := fun W => fits3_any B L I a c dd e f lo W
  have c3 := fun W => refMay_any B L I a c dd e f lo k l s b d W h
  have H27 : Hid ((Try.prog.info? 27).map (·.size) = some (node16 k l s b d).size) := size27
  have H43 : Hid ((Try.prog.info? 43).map (·.size) = some (lay9 B L I a c dd e f lo).size) := size43
  unfold checkE
  generalize standsB B L I a c dd e f lo = v0 at *
  generalize mayV lo B k l s b d = v1 at *
  generalize node16 k l s b d = N at *
  generalize lay9 B L I a c dd e f lo = Y at *
  clear h
  have HA : ∀ W : World, Below ((w.alloc (.cells Y 43)).alloc (.cells N 27)).heap.size ((w.alloc (.cells Y 43)).alloc (.cells N 27)) W → Hid (W.heap[w.heap.size]? = some (.cells Y 43) ∧ W.heap[w.heap.size + 1]? = some (.cells N 27) ∧ Below w.heap.size w W) := fun W hb =>
    ⟨heap_kept (heap_alloc2_old _ _ _) hb, heap_kept (heap_alloc2_new _ _ _) hb, below_next (bel_al (below_new _ _) _) hb⟩
  go_enter Try.func17, Try.ntmps17
  go_wp2_with (first | refine wpList_ldR 43 Try.underlying43 rfl rfl _ rfl _ rfl _ 43 (0, 0) H43.out (heap_alloc2_old _ _ _) ?_ | (go_at_call 38; fail))
  refine (c1 _).mono ?_
  rintro e' W1 ⟨rfl, hb1⟩
  have HW1 := HA W1 hb1
  clear c1
  cases v0
  · clear hb1 c3 HA
    go_wp2
    go_ret
    exact ⟨rfl, HW1.out.2.2⟩
  · go_wp2_with (first | refine wpList_ldR 27 Try.underlying27 rfl rfl _ rfl _ rfl _ 27 (0, 0) H27.out HW1.out.2.1 ?_ | refine wpList_ldR 43 Try.underlying43 rfl rfl _ rfl _ rfl _ 43 (0, 0) H43.out HW1.out.1 ?_ | (go_at_call 39; fail))
    refine (c3 _).mono ?_
    rintro e' W2 ⟨rfl, hb2⟩
    have HW2 := HA W2 (below_next hb1 hb2)
    clear c3 hb1 hb2 HW1 HA
    cases v1
    · go_wp2
      go_ret
      exact ⟨rfl, HW2.out.2.2⟩
    · go_wp2
      go_ret
      exact ⟨rfl, HW2.out.2.2⟩

/-- Counted round. -/
theorem pick_any (i n : Int) (hn : 1 ≤ n ∧ n ≤ 1048576) (w : World) : Calls Try.prog 35 #[.int .i64 i, .int .i64 n] w fun e w' => e = .returned (.int .i64 (i % n)) ∧ w' = w := by
  have h0 : n ≠ 0 := by omega
  have hb : -n < Int.tmod i n ∧ Int.tmod i n < n := by
    have h2 : (Int.tmod i n).natAbs < n.natAbs := by
      rw [Int.natAbs_tmod]
      exact Nat.mod_lt _ (by omega)
    omega
  have hw : IntKind.i64.wrap (Int.tmod i n) = Int.tmod i n := by rw [IntKind.wrap_i64]; omega
  have hm : Int.tmod i n % n = i % n := by
    have h1 := Int.tmod_add_mul_tdiv i n
    have h2 : i % n = (Int.tmod i n + n * Int.tdiv i n) % n := by rw [h1]
    rw [h2, Int.add_mul_emod_self_left]
  by_cases hneg : Int.tmod i n < 0
  · have he : Int.tmod i n + n = i % n := by
      rw [← hm, ← Int.add_emod_right, Int.emod_eq_of_lt (by omega) (by omega)]
    have hw2 : IntKind.i64.wrap (Int.tmod i n + n) = Int.tmod i n + n := by rw [IntKind.wrap_i64]; omega
    rw [← he]
    clear hm he
    go_enter Try.func35, Try.ntmps35
    go_wp2
    go_ret
    exact ⟨rfl, rfl⟩
  · have he : Int.tmod i n = i % n := by
      rw [← hm, Int.emod_eq_of_lt (by omega) (by omega)]
    rw [← he]
    clear hm he
    go_enter Try.func35, Try.ntmps35
    go_wp2
    go_ret
    exact ⟨rfl, rfl⟩
theorem ofV_small (b l i : Int) : ∃ B L I a c dd e f lo : Int, (-9000000 ≤ B ∧ B ≤ 9000000 ∧ -9000000 ≤ c ∧ c ≤ 9000000 ∧ -9000000 ≤ lo ∧ lo ≤ 9000000) ∧ ofV b l i = .agg (lay9 B L I a c dd e f lo) := by
  by_cases hf : Fine b l i
  · have h0 := hf.pos
    refine ⟨b, l, i, 1, 1 + l, nodeB i, bitsAt l i, bitsB b, dataAt b l i, ?_, if_pos hf⟩
    obtain ⟨f1, f2, f3, f4, f5, f6⟩ := hf
    unfold dataAt bitsAt nodeB bitsB at *
    omega
  · exact ⟨0, 0, 0, 0, 0, 0, 0, 0, 0, by omega, if_neg hf⟩
set_option maxRecDepth 20000 in
set_option maxHeartbeats 1000000 in
theorem layout_any (b l i t : Int) (w : World) : Calls Try.prog 15 #[geoV b l i, .int .i64 t] w fun e' w' => (∃ B L I a c dd e f lo : Int, I64 B ∧ e' = .returned (.agg (lay9 B L I a c dd e f lo))) ∧ Below w.heap.size w w' := by
  have hc := fun W => refOf_any b l i W
  obtain ⟨B, L, I, a, c, dd, e, f, lo, ⟨b0, b1, b2, b3, b4, b5⟩, he⟩ := ofV_small b l i
  rw [he] at hc
  have hp := fun W => pick_any t 4 (by omega) W
  obtain ⟨r, hr⟩ : ∃ r : Int, r = t % 4 := ⟨_, rfl⟩
  have hr0 : r = 0 ∨ r = 1 ∨ r = 2 ∨ r = 3 := by omega
  rw [← hr] at hp
  clear he hr
  generalize ofE b l i = oe at *
  have HI : Hid (∀ x : Int, -9000000 ≤ x ∧ x ≤ 90000000 → I64 x) := fun x q => by unfold I64; omega
  unfold geoV at *
  unfold lay9 at *
  rcases hr0 with rfl | rfl | rfl | rfl
  all_goals
    go_enter Try.func15, Try.ntmps15
    go_wp2_with (first | (go_at_call 34; fail))
    refine (hc _).mono ?_
    rintro e' W1 ⟨rfl, hb1⟩
    have HR : Hid _ := heap_kept (heap_alloc2_new w _ _) hb1
    have HB : Hid _ := below_next (bel_al (below_new w _) _) hb1
    clear hc hb1
    go_wp2_with (first | (go_at_call 35; refine (hp _).mono ?_; rintro e' W2 ⟨rfl, rfl⟩) | refine wpList_stR 43 rfl _ _ rfl _ _ _ 43 (by exact size43) (by rfl) (by simp [Value.oneCell']) rfl rfl (heap_kept HR.out (below_new _ _)) ?_)
    refine retR Try.underlying43 rfl rfl (w.heap.size + 1) _ 43 (by exact size43) rfl (setRow_heap _ _ _ _ _ _ (heap_kept HR.out (below_new _ _))) rfl ⟨⟨_, _, _, _, _, _, _, _, _, HI.out _ (by omega), rfl⟩, below_setRow (below_next HB.out (below_new _ _)) (by omega) _⟩
set_option maxRecDepth 20000 in
set_option maxHeartbeats 1000000 in
theorem nodeCheck_walk (b l i t : Int) (k l' s b' : Int) (d : Nat → Int) (w : World) (h : NodeOk k l' s b' d) :
    Calls Try.prog 4 #[geoV b l i, .int .i64 t, .agg (node16 k l' s b' d)] w fun e w' => e = .returned (.bool true) ∧ Below w.heap.size w w' := by
  have hl := fun W => layout_any b l i t W
  have hc := fun (B L I a c dd e f lo : Int) (hB : I64 B) (W : World) => check_any B L I a c dd e f lo k l' s b' d W h hB
  have hr := fun (B L I a c dd e f lo : Int) (W : World) => refCheck_any B L I a c dd e f lo k l' s b' d W h
  have HC : Hid _ := hc
  have HR : Hid _ := hr
  have H27 : Hid ((Try.prog.info? 27).map (·.size) = some (node16 k l' s b' d).size) := size27
  have z43 : ∀ w, (zeroValue 43).run Try.prog w = .ok (.agg (lay9 0 0 0 0 0 0 0 0 0)) w := fun w =>
    (zero_of_info (show (Try.prog.info? 43).map (fun i => (i.zero, i.size)) = some (some (.agg (lay9 0 0 0 0 0 0 0 0 0)), 9) by kernel_rfl)).1 w
  clear h hc hr
  generalize node16 k l' s b' d = N at *
  unfold geoV at *
  go_enter Try.func4, Try.ntmps4
  go_wp2_with (first | (go_at_call 15; fail))
  refine (hl _).mono ?_
  rintro e' W1 ⟨⟨B, L, I, a, c, dd, e, f, lo, hB, rfl⟩, hb1⟩
  have C1 : Hid _ := HC.out B L I a c dd e f lo hB
  have C2 : Hid _ := HR.out B L I a c dd e f lo
  have H43 : Hid ((Try.prog.info? 43).map (·.size) = some (lay9 B L I a c dd e f lo).size) := size43
  have HO : Hid ((lay9 B L I a c dd e f lo).all (·.oneCell') = true) := by show _ = _; simp [lay9, Value.oneCell']
  have HSZ : Hid ((lay9 0 0 0 0 0 0 0 0 0).size = (lay9 B L I a c dd e f lo).size) := rfl
  generalize checkE B L I a c dd e f lo k l' s b' d = v at *
  generalize lay9 B L I a c dd e f lo = Y at *
  generalize lay9 0 0 0 0 0 0 0 0 0 = O at *
  have HN : Hid ((W1.alloc (.cells Y 43)).drew.heap[w.heap.size + 1]? = some (.cells N 27)) := heap_kept (heap_kept (heap_alloc2_new _ _ _) hb1) (below_new _ _).drew
  have HY : Hid ((W1.alloc (.cells Y 43)).drew.heap[W1.heap.size]? = some (.cells Y 43)) := heap_alloc_new _ _
  have HB : Hid _ := (below_next (below_next (bel_al (below_new w _) _) hb1) (below_new W1 (.cells Y 43))).drew
  clear hl hb1 HC HR hB
  go_wp2_with (first | refine wpList_stNew 43 rfl _ _ rfl _ _ _ 43 H43.out HSZ.out HO.out rfl rfl rfl ?_)
  refine wp_region_ord (S := fun u => u.heap[W1.heap.size]? = some (.cells Y 43) ∧ u.heap[w.heap.size + 1]? = some (.cells N 27)) [(0, true), (1, true), (3, true), (4, true), (2, false), (5, false), (6, true), (7, true)]
    (by kernel_rfl) rfl (by kernel_rfl) (fun d _ _ _ _ h => by cases d <;> exact h) ⟨HY.out, HN.out⟩ ?_
  generalize (W1.alloc (.cells Y 43)).drew = wd at *
  simp only [inOrd, List.getElem?_cons_zero, List.getElem?_cons_succ]
  refine wpOrd_ldRT 43 Try.underlying43 rfl rfl _ rfl _ rfl Y 43 (0, 0) H43.out (fun u hu => hu.1) ?_
  simp only [Act.put, List.setIfInBounds_toArray, List.set_cons_succ, List.set_cons_zero]
  refine wpOrd_ldRT 27 Try.underlying27 rfl rfl _ rfl _ rfl N 27 (0, 0) H27.out (fun u hu => hu.2) ?_
  simp only [Act.put, List.setIfInBounds_toArray, List.set_cons_succ, List.set_cons_zero]
  refine wpOrd_ldRT 43 Try.underlying43 rfl rfl _ rfl _ rfl Y 43 (0, 0) H43.out (fun u hu => hu.1) ?_
  simp only [Act.put, List.setIfInBounds_toArray, List.set_cons_succ, List.set_cons_zero]
  refine wpOrd_ldRT 27 Try.underlying27 rfl rfl _ rfl _ rfl N 27 (0, 0) H27.out (fun u hu => hu.2) ?_
  simp only [Act.put, List.setIfInBounds_toArray, List.set_cons_succ, List.set_cons_zero]
  refine wpOrd_call rfl 16 _ _ rfl Try.call16 [.agg Y, .agg N] rfl ?_
  refine (C1.out _).mono ?_
  rintro e' X1 ⟨rfl, hb⟩
  have HY1 : Hid _ := heap_kept HY.out hb
  have HN1 : Hid _ := heap_kept HN.out hb
  have HB1 : Hid _ := below_next HB.out hb
  clear hb HY HN HB C1
  refine ⟨_, rfl, ⟨HY1.out, HN1.out⟩, ?_⟩
  simp only [Act.put, List.setIfInBounds_toArray, List.set_cons_succ, List.set_cons_zero]
  refine wpOrd_call rfl 17 _ _ rfl Try.call17 [.agg Y, .agg N] rfl ?_
  refine (C2.out _).mono ?_
  rintro e' X2 ⟨rfl, hb⟩
  have HY2 : Hid _ := heap_kept HY1.out hb
  have HN2 : Hid _ := heap_kept HN1.out hb
  have HB2 : Hid _ := below_next HB1.out hb
  clear hb HY1 HN1 HB1 C2
  refine ⟨_, rfl, ⟨HY2.out, HN2.out⟩, ?_⟩
  simp only [Act.put, List.setIfInBounds_toArray, List.set_cons_succ, List.set_cons_zero]
  refine wpOrd_yield (v := .bool true) rfl (fun u _ => by go_simp) ?_
  simp only [Act.put, List.setIfInBounds_toArray, List.set_cons_succ, List.set_cons_zero]
  refine wpOrd_yield (v := .bool true) rfl (fun u _ => by simp [execOp, Act.eval]) ?_
  simp only [Act.put, List.setIfInBounds_toArray, List.set_cons_succ, List.set_cons_zero]
  refine wpOrd_nil ?_
  go_wp2
  go_ret
  exact ⟨rfl, HB2.out⟩
end Go.Proofs.Ytohknfoljnddjaa
