/- Check of node: whether a layout stands and whether an inode may be; for every layout and inode. -/
import Derived.Test.YtohknfoljnddjaaChk1
import Derived.Test.YtohknfoljnddjaaChk2
namespace Go.Proofs.Ytohknfoljnddjaa
open Go.RowKit

def sameLay (b l i a c d e f g b' l' i' a' c' d' e' f' g' : Int) : Bool := (b == b' && (l == l' && i == i')) && (a == a' && (c == c' && (d == d' && (e == e' && (f == f' && g == g')))))
set_option maxRecDepth 20000 in
theorem eq43 (b l i a c d e f g b' l' i' a' c' d' e' f' g' : Int) (w : World) : (Op.equalIn 10000 43 (.agg (lay9 b l i a c d e f g)) (.agg (lay9 b' l' i' a' c' d' e' f' g'))).run Try.prog w = .ok (sameLay b l i a c d e f g b' l' i' a' c' d' e' f' g') w := by
  have hf : Try.prog.underlying 43 = some (.struct (Try.prog.fieldsOf 43)) := by kernel_rfl
  have hp : Try.prog.stoodInHeld 43 = false := by kernel_rfl
  have hf1 : Try.prog.underlying 41 = some (.struct (Try.prog.fieldsOf 41)) := by kernel_rfl
  have hp1 : Try.prog.stoodInHeld 41 = false := by kernel_rfl
  have hq : ∀ w, (Op.equalIn 9999 41 (.agg #[.int .i64 b, .int .i64 l, .int .i64 i]) (.agg #[.int .i64 b', .int .i64 l', .int .i64 i'])).run Try.prog w = .ok (b == b' && (l == l' && i == i')) w := fun w => by
    show (Op.equalIn (9998 + 1) 41 _ _).run Try.prog w = _
    rw [run_equalIn_agg _ _ _ _ _ hf1 hp1]
    simp only [Program.fieldsOf, Try.underlying41, Op.eqFields]
    simp [part, go_sem]
    by_cases h1 : b = b'
    · by_cases h2 : l = l'
      · by_cases h3 : i = i' <;> simp [h1, h2, h3]
      · simp [h2]
    · simp [h1]
  unfold sameLay lay9
  generalize (b == b' && (l == l' && i == i')) = q at *
  show (Op.equalIn (9999 + 1) 43 _ _).run Try.prog w = _
  rw [run_equalIn_agg _ _ _ _ _ hf hp]
  simp only [Program.fieldsOf, Try.underlying43, Op.eqFields]
  simp [part, go_sem, hq]
  cases q
  · simp
  · by_cases h1 : a = a'
    · by_cases h2 : c = c'
      · by_cases h3 : d = d'
        · by_cases h4 : e = e'
          · by_cases h5 : f = f'
            · by_cases h6 : g = g' <;> simp [h1, h2, h3, h4, h5, h6]
            · simp [h5]
          · simp [h4]
        · simp [h3]
      · simp [h2]
    · simp [h1]
theorem sameLay_stands {b l i a c d e f g : Int} (hf : Fine b l i) : sameLay b l i 1 (1 + l) (nodeB i) (bitsAt l i) (bitsB b) (dataAt b l i) b l i a c d e f g = standsB b l i a c d e f g := by
  rw [Bool.eq_iff_iff]
  unfold standsB sameLay
  simp only [Bool.and_eq_true, beq_iff_eq, decide_eq_true_eq]
  constructor
  · rintro ⟨_, h1, h2, h3, h4, h5, h6⟩; exact ⟨hf, h1.symm, h2.symm, h3.symm, h4.symm, h5.symm, h6.symm⟩
  · rintro ⟨_, h1, h2, h3, h4, h5, h6⟩; exact ⟨by simp, h1.symm, h2.symm, h3.symm, h4.symm, h5.symm, h6.symm⟩

set_option maxRecDepth 20000 in
set_option maxHeartbeats 400000 in
theorem nstands_fine (b l i a c d e f g : Int) (w : World) (hb : I64 b) (hf : Fine b l i) :
    Calls Try.prog 36 #[.agg (lay9 b l i a c d e f g)] w fun e' w' => e' = .returned (.bool (standsB b l i a c d e f g)) ∧ Below w.heap.size w w' := by
  have hc := fun w => of_any b l i w hb
  rw [show ofV b l i = layV b l i from if_pos hf, show ofE b l i = 0 from if_pos hf] at hc
  unfold layV geoV at hc
  have heq := fun w => eq43 b l i 1 (1 + l) (nodeB i) (bitsAt l i) (bitsB b) (dataAt b l i) b l i a c d e f g w
  rw [sameLay_stands hf] at heq
  have z43 : ∀ w, (zeroValue 43).run Try.prog w = .ok (.agg (lay9 0 0 0 0 0 0 0 0 0)) w := fun w =>
    (zero_of_info (show (Try.prog.info? 43).map (fun i => (i.zero, i.size)) = some (some (.agg (lay9 0 0 0 0 0 0 0 0 0)), 9) by kernel_rfl)).1 w
  have hc2 := fun (W : World) (h : W.heap[w.heap.size]? = some (.cells (lay9 b l i a c d e f g) 43)) => lay_cells h
  have g0 : (lay9 b l i a c d e f g)[0]? = some (.int .i64 b) := rfl
  have g1 : (lay9 b l i a c d e f g)[1]? = some (.int .i64 l) := rfl
  have g2 : (lay9 b l i a c d e f g)[2]? = some (.int .i64 i) := rfl
  have hs1 : (Try.prog.info? 43).map (·.size) = some (lay9 b l i a c d e f g).size := size43
  have hs2 : (Try.prog.info? 43).map (·.size) = some (lay9 b l i 1 (1 + l) (nodeB i) (bitsAt l i) (bitsB b) (dataAt b l i)).size := size43
  have ho2 : (lay9 b l i 1 (1 + l) (nodeB i) (bitsAt l i) (bitsB b) (dataAt b l i)).all (·.oneCell') = true := by simp [lay9, Value.oneCell']
  have hs3 : (lay9 0 0 0 0 0 0 0 0 0).size = (lay9 b l i 1 (1 + l) (nodeB i) (bitsAt l i) (bitsB b) (dataAt b l i)).size := rfl
  generalize lay9 b l i 1 (1 + l) (nodeB i) (bitsAt l i) (bitsB b) (dataAt b l i) = Z at *
  generalize lay9 b l i a c d e f g = Y at *
  generalize lay9 0 0 0 0 0 0 0 0 0 = O at *
  generalize standsB b l i a c d e f g = v at *
  clear hf
  have H2 : Hid _ := hs2
  have H1 : Hid _ := hs1
  have H3 : Hid _ := hs3
  have HO : Hid _ := ho2
  clear hs1 hs2 hs3 ho2 hc2
  go_enter Try.func36, Try.ntmps36
  go_wp2_with (first | (go_at_call 19; fail))
  refine (hc _).mono ?_
  rintro e' W1 ⟨rfl, hb1⟩
  have HY : Hid _ := heap_kept (heap_alloc_new w (.cells Y 43)) hb1
  have HB : Hid _ := below_next (below_new w (.cells Y 43)) hb1
  clear hc hb1 g0 g1 g2
  go_wp2_with (first | refine wpList_stNew 43 rfl _ _ rfl _ _ _ 43 H2.out H3.out HO.out rfl rfl rfl ?_ | refine wpList_ldR 43 Try.underlying43 rfl rfl _ rfl _ rfl _ 43 (0, 0) H2.out (heap_alloc_new _ _) ?_ | refine wpList_ldR 43 Try.underlying43 rfl rfl _ rfl _ rfl _ 43 (0, 0) H1.out (heap_kept HY.out (below_new _ _)) ?_)
  go_ret
  exact ⟨rfl, below_next HB.out (below_new _ _)⟩
set_option maxRecDepth 20000 in
set_option maxHeartbeats 400000 in
theorem nstands_not (b l i a c d e f g : Int) (w : World) (hb : I64 b) (hf : ¬ Fine b l i) :
    Calls Try.prog 36 #[.agg (lay9 b l i a c d e f g)] w fun e' w' => e' = .returned (.bool (standsB b l i a c d e f g)) ∧ Below w.heap.size w w' := by
  have hc := fun w => of_any b l i w hb
  rw [show ofV b l i = layZ from if_neg hf, show ofE b l i = 2 from if_neg hf] at hc
  unfold layZ geoV at hc
  rw [show standsB b l i a c d e f g = false from decide_eq_false fun q => hf q.1]
  have z43 : ∀ w, (zeroValue 43).run Try.prog w = .ok (.agg (lay9 0 0 0 0 0 0 0 0 0)) w := fun w =>
    (zero_of_info (show (Try.prog.info? 43).map (fun i => (i.zero, i.size)) = some (some (.agg (lay9 0 0 0 0 0 0 0 0 0)), 9) by kernel_rfl)).1 w
  have g0 : (lay9 b l i a c d e f g)[0]? = some (.int .i64 b) := rfl
  have g1 : (lay9 b l i a c d e f g)[1]? = some (.int .i64 l) := rfl
  have g2 : (lay9 b l i a c d e f g)[2]? = some (.int .i64 i) := rfl
  have H3 : Hid ((Try.prog.info? 43).map (·.size) = some (lay9 0 0 0 0 0 0 0 0 0).size) := size43
  have HO : Hid ((lay9 0 0 0 0 0 0 0 0 0).all (·.oneCell') = true) := by show _ = _; simp [lay9, Value.oneCell']
  generalize lay9 b l i a c d e f g = Y at *
  generalize lay9 0 0 0 0 0 0 0 0 0 = O at *
  clear hf
  go_enter Try.func36, Try.ntmps36
  go_wp2_with (first | (go_at_call 19; fail))
  refine (hc _).mono ?_
  rintro e' W1 ⟨rfl, hb1⟩
  have HB : Hid _ := below_next (below_new w (.cells Y 43)) hb1
  clear hc hb1 g0 g1 g2
  go_wp2_with (first | refine wpList_stNew 43 rfl _ _ rfl _ _ _ 43 H3.out rfl HO.out rfl rfl rfl ?_)
  go_ret
  exact ⟨rfl, below_next HB.out (below_new _ _)⟩
theorem nstands_any (b l i a c d e f g : Int) (w : World) (hb : I64 b) :
    Calls Try.prog 36 #[.agg (lay9 b l i a c d e f g)] w fun e' w' => e' = .returned (.bool (standsB b l i a c d e f g)) ∧ Below w.heap.size w w' := by
  by_cases hf : Fine b l i
  · exact nstands_fine b l i a c d e f g w hb hf
  · exact nstands_not b l i a c d e f g w hb hf

/-- May an inode be, where the data blocks are those from lo on and below hi? -/
def mayV (lo hi k l s b : Int) (d : Nat → Int) : Bool :=
  sameNode k l s b d 0 0 0 0 nought || (decide (BoundP k l s) && (decide (PlaceP lo hi d 12) && (decide (ReachP k s d 12) && decide (CountP b d))))
set_option maxRecDepth 20000 in
set_option maxHeartbeats 1000000 in
theorem mayBe_any (B L I a c dd e f lo : Int) (k l s b : Int) (d : Nat → Int) (w : World) (h : NodeOk k l s b d) (hlo : 0 ≤ lo ∧ lo < 4294967296) (hB : 0 ≤ B ∧ B < 4294967296) :
    Calls Try.prog 37 #[.agg (lay9 B L I a c dd e f lo), .agg (node16 k l s b d)] w fun e' w' => e' = .returned (.bool (mayV lo B k l s b d)) ∧ Below w.heap.size w w' := by
  have z27 := zero27
  have heq := fun w => eq27 k l s b d 0 0 0 0 nought w
  have c1 := fun W => bounded_any' k l s b d W h
  have c2 := fun W => placed_any B L I a c dd e f lo k l s b d W h hlo hB
  have c3 := fun W => reached_any k l s b d W h
  have c4 := fun W => counted_any k l s b d W h
  have H27 : Hid ((Try.prog.info? 27).map (·.size) = some (node16 k l s b d).size) := size27
  have H43 : Hid ((Try.prog.info? 43).map (·.size) = some (lay9 B L I a c dd e f lo).size) := size43
  unfold mayV
  generalize sameNode k l s b d 0 0 0 0 nought = v0 at *
  generalize decide (BoundP k l s) = v1 at *
  generalize decide (PlaceP lo B d 12) = v2 at *
  generalize decide (ReachP k s d 12) = v3 at *
  generalize decide (CountP b d) = v4 at *
  clear h hlo hB
  generalize node16 k l s b d = N at *
  generalize node16 0 0 0 0 nought = O at *
  generalize lay9 B L I a c dd e f lo = Y at *
  have HA : ∀ W : World, Below ((w.alloc (.cells Y 43)).alloc (.cells N 27)).heap.size ((w.alloc (.cells Y 43)).alloc (.cells N 27)) W → Hid (W.heap[w.heap.size]? = some (.cells Y 43) ∧ W.heap[w.heap.size + 1]? = some (.cells N 27) ∧ Below w.heap.size w W) := fun W hb =>
    ⟨heap_kept (heap_alloc2_old _ _ _) hb, heap_kept (heap_alloc2_new _ _ _) hb, below_next (bel_al (below_new _ _) _) hb⟩
  cases v0
  · go_enter Try.func37, Try.ntmps37
    go_wp2_with (first | refine wpList_ldR 27 Try.underlying27 rfl rfl _ rfl _ rfl _ 27 (0, 0) H27.out (heap_alloc2_new _ _ _) ?_ | (go_at_call 44; fail))
    refine (c1 _).mono ?_
    rintro e' W1 ⟨rfl, hb1⟩
    have HW1 := HA W1 hb1
    clear c1 heq
    cases v1
    · clear hb1 c2 c3 c4 HA
      go_wp2
      go_ret
      exact ⟨rfl, HW1.out.2.2⟩
    · go_wp2_with (first | refine wpList_ldR 27 Try.underlying27 rfl rfl _ rfl _ rfl _ 27 (0, 0) H27.out HW1.out.2.1 ?_ | refine wpList_ldR 43 Try.underlying43 rfl rfl _ rfl _ rfl _ 43 (0, 0) H43.out HW1.out.1 ?_ | (go_at_call 45; fail))
      refine (c2 _).mono ?_
      rintro e' W2 ⟨rfl, hb2⟩
      have hb2' := below_next hb1 hb2
      have HW2 := HA W2 hb2'
      clear c2 hb1 hb2 HW1
      cases v2
      · clear hb2' c3 c4 HA
        go_wp2
        go_ret
        exact ⟨rfl, HW2.out.2.2⟩
      · go_wp2_with (first | refine wpList_ldR 27 Try.underlying27 rfl rfl _ rfl _ rfl _ 27 (0, 0) H27.out HW2.out.2.1 ?_ | (go_at_call 46; fail))
        refine (c3 _).mono ?_
        rintro e' W3 ⟨rfl, hb3⟩
        have hb3' := below_next hb2' hb3
        have HW3 := HA W3 hb3'
        clear c3 hb3 hb2' HW2
        cases v3
        · clear hb3' c4 HA
          go_wp2
          go_ret
          exact ⟨rfl, HW3.out.2.2⟩
        · go_wp2_with (first | refine wpList_ldR 27 Try.underlying27 rfl rfl _ rfl _ rfl _ 27 (0, 0) H27.out HW3.out.2.1 ?_ | (go_at_call 47; fail))
          refine (c4 _).mono ?_
          rintro e' W4 ⟨rfl, hb4⟩
          have HW4 := HA W4 (below_next hb3' hb4)
          clear c4 hb4 hb3' HW3 HA
          go_wp2
          go_ret
          exact ⟨rfl, HW4.out.2.2⟩
  · go_enter Try.func37, Try.ntmps37
    go_wp2_with (first | refine wpList_ldR 27 Try.underlying27 rfl rfl _ rfl _ rfl _ 27 (0, 0) H27.out (heap_alloc2_new _ _ _) ?_)
    go_ret
    exact ⟨rfl, bel_al (below_new _ _) _⟩

/-- What Check answers. -/
def checkE (B L I a c dd e f lo k l s b : Int) (d : Nat → Int) : Int := if standsB B L I a c dd e f lo = false then 2 else if mayV lo B k l s b d = false then 4 else 0
set_option maxRecDepth 20000 in
set_option maxHeartbeats 1000000 in
theorem check_any (B L I a c dd e f lo : Int) (k l s b : Int) (d : Nat → Int) (w : World) (h : NodeOk k l s b d) (hB : I64 B) :
    Calls Try.prog 16 #[.agg (lay9 B L I a c dd e f lo), .agg (node16 k l s b d)] w fun e' w' => e' = .returned (.int .i64 (checkE B L I a c dd e f lo k l s b d)) ∧ Below w.heap.size w w' := by
  have c1 := fun W => nstands_any B L I a c dd e f lo W hB
  have c2 : standsB B L I a c dd e f lo = true → ∀ W : World, Calls Try.prog 37 #[.agg (lay9 B L I a c dd e f lo), .agg (node16 k l s b d)] W fun e' w' => e' = .returned (.bool (mayV lo B k l s b d)) ∧ Below W.heap.size W w' := fun q W => by
    obtain ⟨hf, _, _, _, _, _, hg⟩ := of_decide_eq_true q
    have h0 := hf.pos
    obtain ⟨f1, f2, f3, f4, f5, f6⟩ := hf
    refine mayBe_any B L I a c dd e f lo k l s b d W h ?_ (by omega)
    rw [hg]
    unfold dataAt bitsAt nodeB bitsB at *
    omega
  have H27 : Hid ((Try.prog.info? 27).map (·.size) = some (node16 k l s b d).size) := size27
  have H43 : Hid ((Try.prog.info? 43).map (·.size) = some (lay9 B L I a c dd e f lo).size) := size43
  unfold checkE
  generalize standsB B L I a c dd e f lo = v0 at *
  generalize mayV lo B k l s b d = v1 at *
  generalize node16 k l s b d = N at *
  generalize lay9 B L I a c dd e f lo = Y at *
  clear h hB
  have HA : ∀ W : World, Below ((w.alloc (.cells Y 43)).alloc (.cells N 27)).heap.size ((w.alloc (.cells Y 43)).alloc (.cells N 27)) W → Hid (W.heap[w.heap.size]? = some (.cells Y 43) ∧ W.heap[w.heap.size + 1]? = some (.cells N 27) ∧ Below w.heap.size w W) := fun W hb =>
    ⟨heap_kept (heap_alloc2_old _ _ _) hb, heap_kept (heap_alloc2_new _ _ _) hb, below_next (bel_al (below_new _ _) _) hb⟩
  go_enter Try.func16, Try.ntmps16
  go_wp2_with (first | refine wpList_ldR 43 Try.underlying43 rfl rfl _ rfl _ rfl _ 43 (0, 0) H43.out (heap_alloc2_old _ _ _) ?_ | (go_at_call 36; fail))
  refine (c1 _).mono ?_
  rintro e' W1 ⟨rfl, hb1⟩
  have HW1 := HA W1 hb1
  clear c1
  cases v0
  · clear hb1 c2 HA
    go_wp2
    go_ret
    exact ⟨rfl, HW1.out.2.2⟩
  · have c3 := c2 rfl
    clear c2
    go_wp2_with (first | refine wpList_ldR 27 Try.underlying27 rfl rfl _ rfl _ rfl _ 27 (0, 0) H27.out HW1.out.2.1 ?_ | refine wpList_ldR 43 Try.underlying43 rfl rfl _ rfl _ rfl _ 43 (0, 0) H43.out HW1.out.1 ?_ | (go_at_call 37; fail))
    refine (c3 _).mono ?_
    rintro e' W2 ⟨rfl, hb2⟩
    have HW2 := HA W2 (below_next hb1 hb2)
    clear c3 hb1 hb2 HW1 HA
    cases v1
    · go_wp2
      go_ret
      exact ⟨rfl, HW2.out.2.2⟩
    · go_wp2
      go_ret
      exact ⟨rfl, HW2.out.2.2⟩
end Go.Proofs.Ytohknfoljnddjaa
