/- The law NodeKnown walked: true; no other memory turns. -/
import Derived.Test.YtohknfoljnddjaaAwake
import Derived.Test.YtohknfoljnddjaaRefDec
import Derived.Deep.Cut
import Derived.Deep.CutRange
namespace Go.Proofs.Ytohknfoljnddjaa
open Go.RowKit

/-- Inodes' rows in memory, each at a place of its own, made since w. -/
structure KN (w W : World) (l : List (Nat × Array Value)) : Prop where
  rows : ∀ p ∈ l, W.heap[p.1]? = some (.cells p.2 27)
  nodup : (l.map (·.1)).Nodup
  far : ∀ p ∈ l, w.heap.size ≤ p.1
  bel : Below w.heap.size w W
theorem KN.start (w : World) : KN w w [] := ⟨fun p hp => (by cases hp), (by simp), fun p hp => (by cases hp), Below.refl _ _⟩
theorem KN.call {w W W' : World} {l : List (Nat × Array Value)} (h : KN w W l) (hb : Below W.heap.size W W') : KN w W' l := ⟨fun p hp => heap_kept (h.rows p hp) hb, h.nodup, h.far, below_next h.bel hb⟩
theorem KN.drew {w W : World} {l : List (Nat × Array Value)} (h : KN w W l) : KN w W.drew l := ⟨h.rows, h.nodup, h.far, h.bel.drew⟩
theorem KN.alloc {w W : World} {l : List (Nat × Array Value)} (h : KN w W l) (A : Array Value) : KN w (W.alloc (.cells A 27)) ((W.heap.size, A) :: l) := by
  refine ⟨fun p hp => ?_, ?_, fun p hp => ?_, below_next h.bel (below_new _ _)⟩
  · rcases List.mem_cons.1 hp with rfl | hp
    · exact heap_alloc_new _ _
    · exact heap_kept (h.rows p hp) (below_new _ _)
  · rw [List.map_cons, List.nodup_cons]
    refine ⟨fun q => ?_, h.nodup⟩
    obtain ⟨p, hp, e⟩ := List.mem_map.1 q
    have := (Array.getElem?_eq_some_iff.1 (h.rows p hp)).1
    omega
  · rcases List.mem_cons.1 hp with rfl | hp
    · exact h.bel.size
    · exact h.far p hp
theorem KN.at {w W : World} {l : List (Nat × Array Value)} (h : KN w W l) (i : Nat) {g : Nat} {A : Array Value} (hi : l[i]? = some (g, A)) : W.heap[g]? = some (.cells A 27) := h.rows (g, A) (List.mem_of_getElem? hi)
theorem KN.set {w W : World} {l l' : List (Nat × Array Value)} (h : KN w W l) (i : Nat) (A' : Array Value) {g : Nat} {A : Array Value} (hi : l[i]? = some (g, A)) (hl : l' = l.set i (g, A')) : KN w (W.setRow g A') l' := by
  subst hl
  have hm : (l.set i (g, A')).map (·.1) = l.map (·.1) := by
    apply List.ext_getElem?
    intro j
    rw [List.getElem?_map, List.getElem?_map, List.getElem?_set]
    split
    · rename_i e
      subst e
      split
      · rw [hi]; rfl
      · rename_i q
        rw [List.getElem?_eq_none (by omega)]
    · rfl
  refine ⟨fun p hp => ?_, by rw [hm]; exact h.nodup, fun p hp => ?_, below_setRow h.bel (h.far _ (List.mem_of_getElem? hi)) _⟩
  · obtain ⟨j, hj⟩ := List.getElem?_of_mem hp
    rw [List.getElem?_set] at hj
    split at hj
    · split at hj
      · obtain rfl := Option.some.inj hj
        exact setRow_heap _ _ _ _ _ _ (h.at i hi)
      · cases hj
    · rename_i e
      have h1 := h.rows p (List.mem_of_getElem? hj)
      refine (setRow_other _ _ _ _ fun q => e ?_).trans h1
      have n1 : (l.map (·.1))[i]? = some g := by rw [List.getElem?_map, hi]; rfl
      have n2 : (l.map (·.1))[j]? = some g := by rw [List.getElem?_map, hj]; exact congrArg some q
      have hlt : i < (l.map (·.1)).length := (List.getElem?_eq_some_iff.1 n1).1
      exact (List.getElem?_inj hlt h.nodup).1 (n1.trans n2.symm)
  · have : p.1 ∈ l.map (·.1) := by rw [← hm]; exact List.mem_map.2 ⟨p, hp, rfl⟩
    obtain ⟨p', hp', e⟩ := List.mem_map.1 this
    rw [← e]; exact h.far p' hp'
theorem wpList_stK24 {ops : Array Oper} {rest : List Oper} {o : Oper} {a : Act} {w : World} {Q : Exit → Act → World → Prop} (hgd : o.guard = none) (p y : Operand) (ho : o.op = .store 24 p y)
    (g j : Nat) (cs cs' : Array Value) (t : TypeId) (x : Int) (hj : j < cs.size) (hx : a.eval p = .pointer (some ⟨g, j, none⟩)) (hy : a.eval y = .int .u32 x) (hc : cs.setIfInBounds j (.int .u32 x) = cs') (hg : w.heap[g]? = some (.cells cs t))
    (h : wpList Try.prog ops Q rest (a.put o.dst undef) (w.setRow g cs')) : wpList Try.prog ops Q (o :: rest) a w :=
  wpList_stC hgd p y ho g j cs t x hj hx hy hg (by rw [hc]; exact h)
theorem info22 : ∃ i0, Try.prog.info? 22 = some i0 ∧ i0.size = 1 := by
  have h : (Try.prog.info? 22).map (·.size) = some 1 := by kernel_rfl
  cases hq : Try.prog.info? 22 with
  | none => rw [hq] at h; cases h
  | some i => exact ⟨i, rfl, by simpa [hq] using h⟩
theorem wpList_stK22 {ops : Array Oper} {rest : List Oper} {o : Oper} {a : Act} {w : World} {Q : Exit → Act → World → Prop} (hgd : o.guard = none) (p y : Operand) (ho : o.op = .store 22 p y)
    (g j : Nat) (cs cs' : Array Value) (t : TypeId) (x : Int) (hj : j < cs.size) (hx : a.eval p = .pointer (some ⟨g, j, none⟩)) (hy : a.eval y = .int .u16 x) (hc : cs.setIfInBounds j (.int .u16 x) = cs') (hg : w.heap[g]? = some (.cells cs t))
    (h : wpList Try.prog ops Q rest (a.put o.dst undef) (w.setRow g cs')) : wpList Try.prog ops Q (o :: rest) a w :=
  wpList_plain hgd fun _ hK => by
    obtain ⟨i0, hi0, hz⟩ := info22
    have hcc : w.cell? ⟨g, j, none⟩ = some cs[j] := by rw [cell_of_row w g j cs t _ hg]; simp
    have hf : w.frozen? ⟨g, j, none⟩ = false := by simp [World.frozen?, hg]
    have hr := setCell_eq_setRow w g j cs t (0, 0) (.int .u16 x) hg
    rw [hc] at hr
    have e : (Instr.storeAt 22 (.pointer (some ⟨g, j, none⟩)) (.int .u16 x)).run Try.prog w = .ok () (w.setRow g cs') := by
      simp [Instr.storeAt, Instr.sureAddr, storeVar, sizeOf, typeInfo, hi0, hz, storeCells, go_sem, hcc, hf, hr]
    unfold Oper.wp execOp
    simp only [ho, hx, hy, Sem.run_bind, e, Sem.run_pure, Result.andThen_ok]
    exact hK _ _ h
def two0 (x y : Int) : Nat → Int := fun i => if i = 0 then x else if i = 1 then y else 0
def ten0 (x : Int) : Nat → Int := fun i => if i = 10 then x else 0
theorem one_bd (x : Int) (h : 0 ≤ x ∧ x < 4294967296) (i : Nat) : 0 ≤ one0 x i ∧ one0 x i < 4294967296 := by unfold one0; split <;> omega
theorem two_bd (x y : Int) (h : 0 ≤ x ∧ x < 4294967296) (h' : 0 ≤ y ∧ y < 4294967296) (i : Nat) : 0 ≤ two0 x y i ∧ two0 x y i < 4294967296 := by unfold two0; repeat' split <;> omega
theorem ten_bd (x : Int) (h : 0 ≤ x ∧ x < 4294967296) (i : Nat) : 0 ≤ ten0 x i ∧ ten0 x i < 4294967296 := by unfold ten0; split <;> omega
theorem no_bd (i : Nat) : 0 ≤ nought i ∧ nought i < 4294967296 := ⟨Int.le_refl _, show (0 : Int) < 4294967296 by decide⟩
set_option maxRecDepth 20000 in
set_option maxHeartbeats 8000000 in
theorem nodeKnown_walk (w : World) : Calls Try.prog 7 #[] w fun e' w' => e' = .returned (.bool true) ∧ Below w.heap.size w w' := by
  have z27 := zero27
  have CS : Hid _ := small_any
  have CW : Hid _ := awake_any
  have CX : Hid (∀ W : World, Calls Try.prog 16 #[.agg (lay9 0 0 0 0 0 0 0 0 0), .agg (node16 0 0 0 0 nought)] W fun e w' => e = .returned (.int .i64 2) ∧ Below W.heap.size W w') := fun W => by
    have := check_any 0 0 0 0 0 0 0 0 0 0 0 0 0 nought W ⟨by omega, by omega, by omega, by omega, no_bd⟩ (by unfold I64; omega)
    rwa [show checkE 0 0 0 0 0 0 0 0 0 0 0 0 0 nought = 2 from by decide] at this
  have CA : Hid (∀ W : World, Calls Try.prog 22 #[.agg (node16 1 1 3 1 (one0 37))] W fun e w' => e = .returned (.int .i64 4) ∧ Below W.heap.size W w') := fun W => by
    have := lcheck_any 1 1 3 1 (one0 37) W ⟨by omega, by omega, by omega, by omega, one_bd 37 (by omega)⟩
    rwa [show lchk 1 1 3 1 (one0 37) = 4 from by decide] at this
  have CB : Hid (∀ W : World, Calls Try.prog 22 #[.agg (node16 1 1 3 1 (one0 0))] W fun e w' => e = .returned (.int .i64 4) ∧ Below W.heap.size W w') := fun W => by
    have := lcheck_any 1 1 3 1 (one0 0) W ⟨by omega, by omega, by omega, by omega, one_bd 0 (by omega)⟩
    rwa [show lchk 1 1 3 1 (one0 0) = 4 from by decide] at this
  have CC : Hid (∀ W : World, Calls Try.prog 22 #[.agg (node16 1 1 3 2 (two0 39 40))] W fun e w' => e = .returned (.int .i64 4) ∧ Below W.heap.size W w') := fun W => by
    have := lcheck_any 1 1 3 2 (two0 39 40) W ⟨by omega, by omega, by omega, by omega, two_bd 39 40 (by omega) (by omega)⟩
    rwa [show lchk 1 1 3 2 (two0 39 40) = 4 from by decide] at this
  have CD : Hid (∀ W : World, Calls Try.prog 22 #[.agg (node16 1 1 3 2 (one0 39))] W fun e w' => e = .returned (.int .i64 4) ∧ Below W.heap.size W w') := fun W => by
    have := lcheck_any 1 1 3 2 (one0 39) W ⟨by omega, by omega, by omega, by omega, one_bd 39 (by omega)⟩
    rwa [show lchk 1 1 3 2 (one0 39) = 4 from by decide] at this
  have CH : Hid (∀ W : World, Calls Try.prog 22 #[.agg (node16 1 1 2000 0 nought)] W fun e w' => e = .returned (.int .i64 0) ∧ Below W.heap.size W w') := fun W => by
    have := lcheck_any 1 1 2000 0 nought W ⟨by omega, by omega, by omega, by omega, no_bd⟩
    rwa [show lchk 1 1 2000 0 nought = 0 from by decide] at this
  have CR : Hid (∀ W : World, Calls Try.prog 22 #[.agg (node16 2 2 32 1 (one0 38))] W fun e w' => e = .returned (.int .i64 0) ∧ Below W.heap.size W w') := fun W => by
    have := lcheck_any 2 2 32 1 (one0 38) W ⟨by omega, by omega, by omega, by omega, one_bd 38 (by omega)⟩
    rwa [show lchk 2 2 32 1 (one0 38) = 0 from by decide] at this
  have CE : Hid (∀ W : World, Calls Try.prog 22 #[.agg (node16 2 1 32 1 (one0 38))] W fun e w' => e = .returned (.int .i64 4) ∧ Below W.heap.size W w') := fun W => by
    have := lcheck_any 2 1 32 1 (one0 38) W ⟨by omega, by omega, by omega, by omega, one_bd 38 (by omega)⟩
    rwa [show lchk 2 1 32 1 (one0 38) = 4 from by decide] at this
  have CF : Hid (∀ W : World, Calls Try.prog 22 #[.agg (node16 2 2 33 1 (one0 38))] W fun e w' => e = .returned (.int .i64 4) ∧ Below W.heap.size W w') := fun W => by
    have := lcheck_any 2 2 33 1 (one0 38) W ⟨by omega, by omega, by omega, by omega, one_bd 38 (by omega)⟩
    rwa [show lchk 2 2 33 1 (one0 38) = 4 from by decide] at this
  have CG : Hid (∀ W : World, Calls Try.prog 22 #[.agg (node16 2 2 32 0 (one0 0))] W fun e w' => e = .returned (.int .i64 4) ∧ Below W.heap.size W w') := fun W => by
    have := lcheck_any 2 2 32 0 (one0 0) W ⟨by omega, by omega, by omega, by omega, one_bd 0 (by omega)⟩
    rwa [show lchk 2 2 32 0 (one0 0) = 4 from by decide] at this
  have CL : Hid (∀ W : World, Calls Try.prog 22 #[.agg (node16 1 0 20000 1 (ten0 50))] W fun e w' => e = .returned (.int .i64 4) ∧ Below W.heap.size W w') := fun W => by
    have := lcheck_any 1 0 20000 1 (ten0 50) W ⟨by omega, by omega, by omega, by omega, ten_bd 50 (by omega)⟩
    rwa [show lchk 1 0 20000 1 (ten0 50) = 4 from by decide] at this
  have CM : Hid (∀ W : World, Calls Try.prog 22 #[.agg (node16 1 0 20000 2 (ten0 50))] W fun e w' => e = .returned (.int .i64 0) ∧ Below W.heap.size W w') := fun W => by
    have := lcheck_any 1 0 20000 2 (ten0 50) W ⟨by omega, by omega, by omega, by omega, ten_bd 50 (by omega)⟩
    rwa [show lchk 1 0 20000 2 (ten0 50) = 0 from by decide] at this
  have CK : Hid (∀ W : World, Calls Try.prog 22 #[.agg (node16 0 1 0 0 nought)] W fun e w' => e = .returned (.int .i64 4) ∧ Below W.heap.size W w') := fun W => by
    have := lcheck_any 0 1 0 0 nought W ⟨by omega, by omega, by omega, by omega, no_bd⟩
    rwa [show lchk 0 1 0 0 nought = 4 from by decide] at this
  have CZ : Hid (∀ W : World, Calls Try.prog 22 #[.agg (node16 0 0 0 0 nought)] W fun e w' => e = .returned (.int .i64 0) ∧ Below W.heap.size W w') := fun W => by
    have := lcheck_any 0 0 0 0 nought W ⟨by omega, by omega, by omega, by omega, no_bd⟩
    rwa [show lchk 0 0 0 0 nought = 0 from by decide] at this
  have CT : Hid (∀ W : World, Calls Try.prog 22 #[.agg (node16 3 0 0 0 nought)] W fun e w' => e = .returned (.int .i64 4) ∧ Below W.heap.size W w') := fun W => by
    have := lcheck_any 3 0 0 0 nought W ⟨by omega, by omega, by omega, by omega, no_bd⟩
    rwa [show lchk 3 0 0 0 nought = 4 from by decide] at this
  have z43 : ∀ w, (zeroValue 43).run Try.prog w = .ok (.agg (lay9 0 0 0 0 0 0 0 0 0)) w := fun w =>
    (zero_of_info (show (Try.prog.info? 43).map (fun i => (i.zero, i.size)) = some (some (.agg (lay9 0 0 0 0 0 0 0 0 0)), 9) by kernel_rfl)).1 w
  go_enter Try.func7, Try.ntmps7
  have K0 : Hid (KN w w []) := KN.start w
  go_wp2_with (first | (go_at_call 21; fail))
  refine (CS.out _).mono ?_
  rintro e' W1 ⟨rfl, hb⟩
  have K2 : Hid _ := K0.out.call hb
  clear hb K0
  go_wp2_with (first | (go_at_call 21; fail))
  refine (CS.out _).mono ?_
  rintro e' W3 ⟨rfl, hb⟩
  have K4 : Hid _ := K2.out.call hb
  clear hb K2
  go_wp2_with (first | (go_at_call 21; fail))
  refine (CS.out _).mono ?_
  rintro e' W5 ⟨rfl, hb⟩
  have K6 : Hid _ := K4.out.call hb
  clear hb K4
  go_wp2_with (first | (go_at_call 21; fail))
  refine (CS.out _).mono ?_
  rintro e' W7 ⟨rfl, hb⟩
  have K8 : Hid _ := K6.out.call hb
  clear hb K6
  have K9 : Hid _ := ((K8.out.alloc (node16 0 0 0 0 nought)).alloc (node16 0 0 0 0 nought) |>.alloc (node16 0 0 0 0 nought)).alloc (node16 0 0 0 0 nought)
  simp only [World.size_alloc] at K9
  clear K8
  have K10 : Hid (KN w (((((W7.alloc (.cells (node16 0 0 0 0 nought) 27)).alloc (.cells (node16 0 0 0 0 nought) 27)).alloc (.cells (node16 0 0 0 0 nought) 27)).alloc (.cells (node16 0 0 0 0 nought) 27)).setRow (W7.heap.size) (node16 1 1 3 1 (one0 39))) [(W7.heap.size + 1 + 1 + 1, (node16 0 0 0 0 nought)), (W7.heap.size + 1 + 1, (node16 0 0 0 0 nought)), (W7.heap.size + 1, (node16 0 0 0 0 nought)), (W7.heap.size, (node16 1 1 3 1 (one0 39)))]) := K9.out.set 3 (node16 1 1 3 1 (one0 39)) rfl rfl
  have K11 : Hid (KN w ((((((W7.alloc (.cells (node16 0 0 0 0 nought) 27)).alloc (.cells (node16 0 0 0 0 nought) 27)).alloc (.cells (node16 0 0 0 0 nought) 27)).alloc (.cells (node16 0 0 0 0 nought) 27)).setRow (W7.heap.size) (node16 1 1 3 1 (one0 39))).setRow (W7.heap.size + 1) (node16 1 1 3 1 (one0 39))) [(W7.heap.size + 1 + 1 + 1, (node16 0 0 0 0 nought)), (W7.heap.size + 1 + 1, (node16 0 0 0 0 nought)), (W7.heap.size + 1, (node16 1 1 3 1 (one0 39))), (W7.heap.size, (node16 1 1 3 1 (one0 39)))]) := K10.out.set 2 (node16 1 1 3 1 (one0 39)) rfl rfl
  have K12 : Hid (KN w (((((((W7.alloc (.cells (node16 0 0 0 0 nought) 27)).alloc (.cells (node16 0 0 0 0 nought) 27)).alloc (.cells (node16 0 0 0 0 nought) 27)).alloc (.cells (node16 0 0 0 0 nought) 27)).setRow (W7.heap.size) (node16 1 1 3 1 (one0 39))).setRow (W7.heap.size + 1) (node16 1 1 3 1 (one0 39))).setRow (W7.heap.size + 1 + 1) (node16 1 1 3 1 (one0 39))) [(W7.heap.size + 1 + 1 + 1, (node16 0 0 0 0 nought)), (W7.heap.size + 1 + 1, (node16 1 1 3 1 (one0 39))), (W7.heap.size + 1, (node16 1 1 3 1 (one0 39))), (W7.heap.size, (node16 1 1 3 1 (one0 39)))]) := K11.out.set 1 (node16 1 1 3 1 (one0 39)) rfl rfl
  have K13 : Hid (KN w ((((((((W7.alloc (.cells (node16 0 0 0 0 nought) 27)).alloc (.cells (node16 0 0 0 0 nought) 27)).alloc (.cells (node16 0 0 0 0 nought) 27)).alloc (.cells (node16 0 0 0 0 nought) 27)).setRow (W7.heap.size) (node16 1 1 3 1 (one0 39))).setRow (W7.heap.size + 1) (node16 1 1 3 1 (one0 39))).setRow (W7.heap.size + 1 + 1) (node16 1 1 3 1 (one0 39))).setRow (W7.heap.size + 1 + 1 + 1) (node16 1 1 3 1 (one0 39))) [(W7.heap.size + 1 + 1 + 1, (node16 1 1 3 1 (one0 39))), (W7.heap.size + 1 + 1, (node16 1 1 3 1 (one0 39))), (W7.heap.size + 1, (node16 1 1 3 1 (one0 39))), (W7.heap.size, (node16 1 1 3 1 (one0 39)))]) := K12.out.set 0 (node16 1 1 3 1 (one0 39)) rfl rfl
  have K14 : Hid (KN w (((((((((W7.alloc (.cells (node16 0 0 0 0 nought) 27)).alloc (.cells (node16 0 0 0 0 nought) 27)).alloc (.cells (node16 0 0 0 0 nought) 27)).alloc (.cells (node16 0 0 0 0 nought) 27)).setRow (W7.heap.size) (node16 1 1 3 1 (one0 39))).setRow (W7.heap.size + 1) (node16 1 1 3 1 (one0 39))).setRow (W7.heap.size + 1 + 1) (node16 1 1 3 1 (one0 39))).setRow (W7.heap.size + 1 + 1 + 1) (node16 1 1 3 1 (one0 39))).setRow (W7.heap.size) (node16 1 1 3 1 (one0 37))) [(W7.heap.size + 1 + 1 + 1, (node16 1 1 3 1 (one0 39))), (W7.heap.size + 1 + 1, (node16 1 1 3 1 (one0 39))), (W7.heap.size + 1, (node16 1 1 3 1 (one0 39))), (W7.heap.size, (node16 1 1 3 1 (one0 37)))]) := K13.out.set 3 (node16 1 1 3 1 (one0 37)) rfl rfl
  have K15 : Hid (KN w ((((((((((W7.alloc (.cells (node16 0 0 0 0 nought) 27)).alloc (.cells (node16 0 0 0 0 nought) 27)).alloc (.cells (node16 0 0 0 0 nought) 27)).alloc (.cells (node16 0 0 0 0 nought) 27)).setRow (W7.heap.size) (node16 1 1 3 1 (one0 39))).setRow (W7.heap.size + 1) (node16 1 1 3 1 (one0 39))).setRow (W7.heap.size + 1 + 1) (node16 1 1 3 1 (one0 39))).setRow (W7.heap.size + 1 + 1 + 1) (node16 1 1 3 1 (one0 39))).setRow (W7.heap.size) (node16 1 1 3 1 (one0 37))).setRow (W7.heap.size + 1) (node16 1 1 3 1 (one0 0))) [(W7.heap.size + 1 + 1 + 1, (node16 1 1 3 1 (one0 39))), (W7.heap.size + 1 + 1, (node16 1 1 3 1 (one0 39))), (W7.heap.size + 1, (node16 1 1 3 1 (one0 0))), (W7.heap.size, (node16 1 1 3 1 (one0 37)))]) := K14.out.set 2 (node16 1 1 3 1 (one0 0)) rfl rfl
  have K16 : Hid (KN w (((((((((((W7.alloc (.cells (node16 0 0 0 0 nought) 27)).alloc (.cells (node16 0 0 0 0 nought) 27)).alloc (.cells (node16 0 0 0 0 nought) 27)).alloc (.cells (node16 0 0 0 0 nought) 27)).setRow (W7.heap.size) (node16 1 1 3 1 (one0 39))).setRow (W7.heap.size + 1) (node16 1 1 3 1 (one0 39))).setRow (W7.heap.size + 1 + 1) (node16 1 1 3 1 (one0 39))).setRow (W7.heap.size + 1 + 1 + 1) (node16 1 1 3 1 (one0 39))).setRow (W7.heap.size) (node16 1 1 3 1 (one0 37))).setRow (W7.heap.size + 1) (node16 1 1 3 1 (one0 0))).setRow (W7.heap.size + 1 + 1) (node16 1 1 3 1 (two0 39 40))) [(W7.heap.size + 1 + 1 + 1, (node16 1 1 3 1 (one0 39))), (W7.heap.size + 1 + 1, (node16 1 1 3 1 (two0 39 40))), (W7.heap.size + 1, (node16 1 1 3 1 (one0 0))), (W7.heap.size, (node16 1 1 3 1 (one0 37)))]) := K15.out.set 1 (node16 1 1 3 1 (two0 39 40)) rfl rfl
  have K17 : Hid (KN w ((((((((((((W7.alloc (.cells (node16 0 0 0 0 nought) 27)).alloc (.cells (node16 0 0 0 0 nought) 27)).alloc (.cells (node16 0 0 0 0 nought) 27)).alloc (.cells (node16 0 0 0 0 nought) 27)).setRow (W7.heap.size) (node16 1 1 3 1 (one0 39))).setRow (W7.heap.size + 1) (node16 1 1 3 1 (one0 39))).setRow (W7.heap.size + 1 + 1) (node16 1 1 3 1 (one0 39))).setRow (W7.heap.size + 1 + 1 + 1) (node16 1 1 3 1 (one0 39))).setRow (W7.heap.size) (node16 1 1 3 1 (one0 37))).setRow (W7.heap.size + 1) (node16 1 1 3 1 (one0 0))).setRow (W7.heap.size + 1 + 1) (node16 1 1 3 1 (two0 39 40))).setRow (W7.heap.size + 1 + 1) (node16 1 1 3 2 (two0 39 40))) [(W7.heap.size + 1 + 1 + 1, (node16 1 1 3 1 (one0 39))), (W7.heap.size + 1 + 1, (node16 1 1 3 2 (two0 39 40))), (W7.heap.size + 1, (node16 1 1 3 1 (one0 0))), (W7.heap.size, (node16 1 1 3 1 (one0 37)))]) := K16.out.set 1 (node16 1 1 3 2 (two0 39 40)) rfl rfl
  have K18 : Hid (KN w (((((((((((((W7.alloc (.cells (node16 0 0 0 0 nought) 27)).alloc (.cells (node16 0 0 0 0 nought) 27)).alloc (.cells (node16 0 0 0 0 nought) 27)).alloc (.cells (node16 0 0 0 0 nought) 27)).setRow (W7.heap.size) (node16 1 1 3 1 (one0 39))).setRow (W7.heap.size + 1) (node16 1 1 3 1 (one0 39))).setRow (W7.heap.size + 1 + 1) (node16 1 1 3 1 (one0 39))).setRow (W7.heap.size + 1 + 1 + 1) (node16 1 1 3 1 (one0 39))).setRow (W7.heap.size) (node16 1 1 3 1 (one0 37))).setRow (W7.heap.size + 1) (node16 1 1 3 1 (one0 0))).setRow (W7.heap.size + 1 + 1) (node16 1 1 3 1 (two0 39 40))).setRow (W7.heap.size + 1 + 1) (node16 1 1 3 2 (two0 39 40))).setRow (W7.heap.size + 1 + 1 + 1) (node16 1 1 3 2 (one0 39))) [(W7.heap.size + 1 + 1 + 1, (node16 1 1 3 2 (one0 39))), (W7.heap.size + 1 + 1, (node16 1 1 3 2 (two0 39 40))), (W7.heap.size + 1, (node16 1 1 3 1 (one0 0))), (W7.heap.size, (node16 1 1 3 1 (one0 37)))]) := K17.out.set 0 (node16 1 1 3 2 (one0 39)) rfl rfl
  go_wp2_with (first | (refine wpList_stR 27 rfl _ _ rfl _ (node16 1 1 3 1 (one0 39)) _ 27 (by exact size27) (by rfl) (node_one _ _ _ _ _) rfl rfl (K9.out.at 3 rfl) ?_; clear K9; generalize ((((W7.alloc (.cells (node16 0 0 0 0 nought) 27)).alloc (.cells (node16 0 0 0 0 nought) 27)).alloc (.cells (node16 0 0 0 0 nought) 27)).alloc (.cells (node16 0 0 0 0 nought) 27)).setRow (W7.heap.size) (node16 1 1 3 1 (one0 39)) = U1 at *; refine Hid.out ?_))
  unfold Hid
  refine wpList_stR 27 rfl _ _ rfl _ (node16 1 1 3 1 (one0 39)) _ 27 (by exact size27) (by rfl) (node_one _ _ _ _ _) rfl rfl (K10.out.at 2 rfl) ?_
  clear K10
  generalize U1.setRow (W7.heap.size + 1) (node16 1 1 3 1 (one0 39)) = U2 at *
  refine wpList_stR 27 rfl _ _ rfl _ (node16 1 1 3 1 (one0 39)) _ 27 (by exact size27) (by rfl) (node_one _ _ _ _ _) rfl rfl (K11.out.at 1 rfl) ?_
  clear K11
  generalize U2.setRow (W7.heap.size + 1 + 1) (node16 1 1 3 1 (one0 39)) = U3 at *
  refine wpList_stR 27 rfl _ _ rfl _ (node16 1 1 3 1 (one0 39)) _ 27 (by exact size27) (by rfl) (node_one _ _ _ _ _) rfl rfl (K12.out.at 0 rfl) ?_
  clear K12
  generalize U3.setRow (W7.heap.size + 1 + 1 + 1) (node16 1 1 3 1 (one0 39)) = U4 at *
  go_wp2_with (first | (refine wpList_stK24 rfl _ _ rfl _ 4 (node16 1 1 3 1 (one0 39)) (node16 1 1 3 1 (one0 37)) 27 37 (by decide) rfl rfl rfl (K13.out.at 3 rfl) ?_; clear K13; generalize U4.setRow (W7.heap.size) (node16 1 1 3 1 (one0 37)) = U5 at *; refine Hid.out ?_))
  unfold Hid
  go_wp2_with (first | (refine wpList_stK24 rfl _ _ rfl _ 4 (node16 1 1 3 1 (one0 39)) (node16 1 1 3 1 (one0 0)) 27 0 (by decide) rfl rfl rfl (K14.out.at 2 rfl) ?_; clear K14; generalize U5.setRow (W7.heap.size + 1) (node16 1 1 3 1 (one0 0)) = U6 at *; refine Hid.out ?_))
  unfold Hid
  go_wp2_with (first | (refine wpList_stK24 rfl _ _ rfl _ 5 (node16 1 1 3 1 (one0 39)) (node16 1 1 3 1 (two0 39 40)) 27 40 (by decide) rfl rfl rfl (K15.out.at 1 rfl) ?_; clear K15; generalize U6.setRow (W7.heap.size + 1 + 1) (node16 1 1 3 1 (two0 39 40)) = U7 at *; refine Hid.out ?_))
  unfold Hid
  go_wp2_with (first | (refine wpList_stK24 rfl _ _ rfl _ 3 (node16 1 1 3 1 (two0 39 40)) (node16 1 1 3 2 (two0 39 40)) 27 2 (by decide) rfl rfl rfl (K16.out.at 1 rfl) ?_; clear K16; generalize U7.setRow (W7.heap.size + 1 + 1) (node16 1 1 3 2 (two0 39 40)) = U8 at *; refine Hid.out ?_))
  unfold Hid
  go_wp2_with (first | (refine wpList_stK24 rfl _ _ rfl _ 3 (node16 1 1 3 1 (one0 39)) (node16 1 1 3 2 (one0 39)) 27 2 (by decide) rfl rfl rfl (K17.out.at 0 rfl) ?_; clear K17; generalize U8.setRow (W7.heap.size + 1 + 1 + 1) (node16 1 1 3 2 (one0 39)) = U9 at *; refine Hid.out ?_))
  unfold Hid
  generalize U9 = V at *
  generalize W7.heap.size + 1 + 1 + 1 = gD at *
  generalize W7.heap.size + 1 + 1 = gC at *
  generalize W7.heap.size + 1 = gB at *
  generalize W7.heap.size = gA at *
  go_wp2_with (first | refine wpList_ldR 27 Try.underlying27 rfl rfl _ rfl _ rfl _ 27 (0, 0) (by exact size27) (K18.out.at 3 rfl) ?_ | (go_at_call 22; fail))
  refine (CA.out _).mono ?_
  rintro e' W19 ⟨rfl, hb⟩
  have K20 : Hid _ := K18.out.call hb
  clear hb K18
  go_wp2_with (first | refine wpList_ldR 27 Try.underlying27 rfl rfl _ rfl _ rfl _ 27 (0, 0) (by exact size27) (K20.out.at 2 rfl) ?_ | (go_at_call 22; fail))
  refine (CB.out _).mono ?_
  rintro e' W21 ⟨rfl, hb⟩
  have K22 : Hid _ := K20.out.call hb
  clear hb K20
  go_wp2_with (first | refine wpList_ldR 27 Try.underlying27 rfl rfl _ rfl _ rfl _ 27 (0, 0) (by exact size27) (K22.out.at 1 rfl) ?_ | (go_at_call 22; fail))
  refine (CC.out _).mono ?_
  rintro e' W23 ⟨rfl, hb⟩
  have K24 : Hid _ := K22.out.call hb
  clear hb K22
  go_wp2_with (first | refine wpList_ldR 27 Try.underlying27 rfl rfl _ rfl _ rfl _ 27 (0, 0) (by exact size27) (K24.out.at 0 rfl) ?_ | (go_at_call 22; fail))
  refine (CD.out _).mono ?_
  rintro e' W25 ⟨rfl, hb⟩
  have K26 : Hid _ := K24.out.call hb
  clear hb K24
  have K27 : Hid _ := K26.out.alloc (node16 1 1 2000 0 nought)
  clear K26
  go_wp2_with (first | (refine wpList_stNew 27 rfl _ _ rfl _ (node16 1 1 2000 0 nought) _ 27 (by exact size27) (by rfl) (node_one _ _ _ _ _) rfl rfl rfl ?_; refine Hid.out ?_))
  unfold Hid
  generalize W25.alloc (.cells (node16 1 1 2000 0 nought) 27) = V28 at *
  generalize W25.heap.size = gH at *
  have K29 : Hid _ := K27.out.alloc (node16 2 2 32 1 (one0 38))
  clear K27
  go_wp2_with (first | (refine wpList_stNew 27 rfl _ _ rfl _ (node16 2 2 32 1 (one0 38)) _ 27 (by exact size27) (by rfl) (node_one _ _ _ _ _) rfl rfl rfl ?_; refine Hid.out ?_))
  unfold Hid
  generalize V28.alloc (.cells (node16 2 2 32 1 (one0 38)) 27) = V30 at *
  generalize V28.heap.size = gR at *
  go_wp2
  have KD : Hid _ := K29.out.drew
  clear K29
  refine wp_region_tree (S := fun u => u.heap[gR]? = some (.cells (node16 2 2 32 1 (one0 38)) 27)) (rdT 0 (rdT 1 (rdT 2 (altT [(3, (altT [(4, (altT [(5, (altT [(6, altT [(7, altT [(8, finT)])])]))])), (5, (altT [(4, (altT [(6, altT [(7, altT [(8, finT)])])]))]))])), (4, (altT [(3, (altT [(5, (altT [(6, altT [(7, altT [(8, finT)])])]))])), (5, (altT [(3, (altT [(6, altT [(7, altT [(8, finT)])])]))]))])), (5, (altT [(3, (altT [(4, (altT [(6, altT [(7, altT [(8, finT)])])]))])), (4, (altT [(3, (altT [(6, altT [(7, altT [(8, finT)])])]))]))]))]))))
    (by kernel_rfl) rfl (by kernel_rfl) (fun d _ _ _ _ h => by cases d <;> exact h) (KD.out.at 0 rfl) ?_
  generalize V30.drew = VD at *
  refine wpT_yield (v := .agg (node16 2 2 32 1 (one0 38))) rfl rfl (fun u hu => run_ldR 27 Try.underlying27 rfl _ rfl gR rfl hu (by exact size27)) ?_
  simp only [Act.put, List.setIfInBounds_toArray, List.set_cons_succ, List.set_cons_zero]
  refine wpT_yield (v := .agg (node16 2 2 32 1 (one0 38))) rfl rfl (fun u hu => run_ldR 27 Try.underlying27 rfl _ rfl gR rfl hu (by exact size27)) ?_
  simp only [Act.put, List.setIfInBounds_toArray, List.set_cons_succ, List.set_cons_zero]
  refine wpT_yield (v := .agg (node16 2 2 32 1 (one0 38))) rfl rfl (fun u hu => run_ldR 27 Try.underlying27 rfl _ rfl gR rfl hu (by exact size27)) ?_
  simp only [Act.put, List.setIfInBounds_toArray, List.set_cons_succ, List.set_cons_zero]
  refine wpT_make (v := .pointer (some ⟨VD.heap.size, 0, none⟩)) (w' := VD.alloc (.cells (node16 0 0 0 0 nought) 27)) rfl rfl (run_alloc27 _ rfl) (KD.out.alloc (node16 0 0 0 0 nought) |>.at 1 rfl) ?_ ?_
  · skip
    have K31 : Hid _ := KD.out.alloc (node16 0 0 0 0 nought)
    clear KD
    simp only [Act.put, List.setIfInBounds_toArray, List.set_cons_succ, List.set_cons_zero]
    generalize VD.heap.size = g8 at *
    generalize VD.alloc (.cells (node16 0 0 0 0 nought) 27) = V32 at *
    refine wpT_make (v := .pointer (some ⟨V32.heap.size, 0, none⟩)) (w' := V32.alloc (.cells (node16 0 0 0 0 nought) 27)) rfl rfl (run_alloc27 _ rfl) (K31.out.alloc (node16 0 0 0 0 nought) |>.at 2 rfl) ?_ ?_
    · skip
      have K33 : Hid _ := K31.out.alloc (node16 0 0 0 0 nought)
      clear K31
      simp only [Act.put, List.setIfInBounds_toArray, List.set_cons_succ, List.set_cons_zero]
      generalize V32.heap.size = g9 at *
      generalize V32.alloc (.cells (node16 0 0 0 0 nought) 27) = V34 at *
      refine wpT_make (v := .pointer (some ⟨V34.heap.size, 0, none⟩)) (w' := V34.alloc (.cells (node16 0 0 0 0 nought) 27)) rfl rfl (run_alloc27 _ rfl) (K33.out.alloc (node16 0 0 0 0 nought) |>.at 3 rfl) ?_ wpT_stop
      have K35 : Hid _ := K33.out.alloc (node16 0 0 0 0 nought)
      clear K33
      simp only [Act.put, List.setIfInBounds_toArray, List.set_cons_succ, List.set_cons_zero]
      generalize V34.heap.size = g10 at *
      generalize V34.alloc (.cells (node16 0 0 0 0 nought) 27) = V36 at *
      have K37 : Hid (KN w (V36.setRow g8 (node16 2 2 32 1 (one0 38))) [(g10, (node16 0 0 0 0 nought)), (g9, (node16 0 0 0 0 nought)), (g8, (node16 2 2 32 1 (one0 38))), (gR, (node16 2 2 32 1 (one0 38))), (gH, (node16 1 1 2000 0 nought)), (gD, (node16 1 1 3 2 (one0 39))), (gC, (node16 1 1 3 2 (two0 39 40))), (gB, (node16 1 1 3 1 (one0 0))), (gA, (node16 1 1 3 1 (one0 37)))]) := K35.out.set 2 (node16 2 2 32 1 (one0 38)) rfl rfl
      refine wpT_do (w' := V36.setRow g8 (node16 2 2 32 1 (one0 38))) rfl rfl (run_st27 _ g8 (K35.out.at 2 rfl) _ _ rfl rfl rfl rfl (node_one _ _ _ _ _) rfl) (K37.out.at 3 rfl) ?_ wpT_stop
      simp only [Act.put]
      clear K35
      generalize V36.setRow g8 (node16 2 2 32 1 (one0 38)) = V38 at *
      have K39 : Hid (KN w (V38.setRow g9 (node16 2 2 32 1 (one0 38))) [(g10, (node16 0 0 0 0 nought)), (g9, (node16 2 2 32 1 (one0 38))), (g8, (node16 2 2 32 1 (one0 38))), (gR, (node16 2 2 32 1 (one0 38))), (gH, (node16 1 1 2000 0 nought)), (gD, (node16 1 1 3 2 (one0 39))), (gC, (node16 1 1 3 2 (two0 39 40))), (gB, (node16 1 1 3 1 (one0 0))), (gA, (node16 1 1 3 1 (one0 37)))]) := K37.out.set 1 (node16 2 2 32 1 (one0 38)) rfl rfl
      refine wpT_do (w' := V38.setRow g9 (node16 2 2 32 1 (one0 38))) rfl rfl (run_st27 _ g9 (K37.out.at 1 rfl) _ _ rfl rfl rfl rfl (node_one _ _ _ _ _) rfl) (K39.out.at 3 rfl) ?_ wpT_stop
      simp only [Act.put]
      clear K37
      generalize V38.setRow g9 (node16 2 2 32 1 (one0 38)) = V40 at *
      have K41 : Hid (KN w (V40.setRow g10 (node16 2 2 32 1 (one0 38))) [(g10, (node16 2 2 32 1 (one0 38))), (g9, (node16 2 2 32 1 (one0 38))), (g8, (node16 2 2 32 1 (one0 38))), (gR, (node16 2 2 32 1 (one0 38))), (gH, (node16 1 1 2000 0 nought)), (gD, (node16 1 1 3 2 (one0 39))), (gC, (node16 1 1 3 2 (two0 39 40))), (gB, (node16 1 1 3 1 (one0 0))), (gA, (node16 1 1 3 1 (one0 37)))]) := K39.out.set 0 (node16 2 2 32 1 (one0 38)) rfl rfl
      refine wpT_do (w' := V40.setRow g10 (node16 2 2 32 1 (one0 38))) rfl rfl (run_st27 _ g10 (K39.out.at 0 rfl) _ _ rfl rfl rfl rfl (node_one _ _ _ _ _) rfl) (K41.out.at 3 rfl) ?_ wpT_stop
      simp only [Act.put]
      clear K39
      generalize V40.setRow g10 (node16 2 2 32 1 (one0 38)) = V42 at *
      refine wpT_fin ?_
      have K43 : Hid (KN w (V42.setRow (g8) (node16 2 1 32 1 (one0 38))) [(g10, (node16 2 2 32 1 (one0 38))), (g9, (node16 2 2 32 1 (one0 38))), (g8, (node16 2 1 32 1 (one0 38))), (gR, (node16 2 2 32 1 (one0 38))), (gH, (node16 1 1 2000 0 nought)), (gD, (node16 1 1 3 2 (one0 39))), (gC, (node16 1 1 3 2 (two0 39 40))), (gB, (node16 1 1 3 1 (one0 0))), (gA, (node16 1 1 3 1 (one0 37)))]) := K41.out.set 2 (node16 2 1 32 1 (one0 38)) rfl rfl
      have K44 : Hid (KN w ((V42.setRow (g8) (node16 2 1 32 1 (one0 38))).setRow (g9) (node16 2 2 33 1 (one0 38))) [(g10, (node16 2 2 32 1 (one0 38))), (g9, (node16 2 2 33 1 (one0 38))), (g8, (node16 2 1 32 1 (one0 38))), (gR, (node16 2 2 32 1 (one0 38))), (gH, (node16 1 1 2000 0 nought)), (gD, (node16 1 1 3 2 (one0 39))), (gC, (node16 1 1 3 2 (two0 39 40))), (gB, (node16 1 1 3 1 (one0 0))), (gA, (node16 1 1 3 1 (one0 37)))]) := K43.out.set 1 (node16 2 2 33 1 (one0 38)) rfl rfl
      have K45 : Hid (KN w (((V42.setRow (g8) (node16 2 1 32 1 (one0 38))).setRow (g9) (node16 2 2 33 1 (one0 38))).setRow (g10) (node16 2 2 32 1 (one0 0))) [(g10, (node16 2 2 32 1 (one0 0))), (g9, (node16 2 2 33 1 (one0 38))), (g8, (node16 2 1 32 1 (one0 38))), (gR, (node16 2 2 32 1 (one0 38))), (gH, (node16 1 1 2000 0 nought)), (gD, (node16 1 1 3 2 (one0 39))), (gC, (node16 1 1 3 2 (two0 39 40))), (gB, (node16 1 1 3 1 (one0 0))), (gA, (node16 1 1 3 1 (one0 37)))]) := K44.out.set 0 (node16 2 2 32 1 (one0 0)) rfl rfl
      have K46 : Hid (KN w ((((V42.setRow (g8) (node16 2 1 32 1 (one0 38))).setRow (g9) (node16 2 2 33 1 (one0 38))).setRow (g10) (node16 2 2 32 1 (one0 0))).setRow (g10) (node16 2 2 32 0 (one0 0))) [(g10, (node16 2 2 32 0 (one0 0))), (g9, (node16 2 2 33 1 (one0 38))), (g8, (node16 2 1 32 1 (one0 38))), (gR, (node16 2 2 32 1 (one0 38))), (gH, (node16 1 1 2000 0 nought)), (gD, (node16 1 1 3 2 (one0 39))), (gC, (node16 1 1 3 2 (two0 39 40))), (gB, (node16 1 1 3 1 (one0 0))), (gA, (node16 1 1 3 1 (one0 37)))]) := K45.out.set 0 (node16 2 2 32 0 (one0 0)) rfl rfl
      go_wp2_with (first | (refine wpList_stK22 rfl _ _ rfl _ 1 (node16 2 2 32 1 (one0 38)) (node16 2 1 32 1 (one0 38)) 27 1 (by decide) rfl rfl rfl (K41.out.at 2 rfl) ?_; clear K41; generalize V42.setRow (g8) (node16 2 1 32 1 (one0 38)) = U1 at *; refine Hid.out ?_))
      unfold Hid
      go_wp2_with (first | (refine wpList_stK24 rfl _ _ rfl _ 2 (node16 2 2 32 1 (one0 38)) (node16 2 2 33 1 (one0 38)) 27 33 (by decide) rfl rfl rfl (K43.out.at 1 rfl) ?_; clear K43; generalize U1.setRow (g9) (node16 2 2 33 1 (one0 38)) = U2 at *; refine Hid.out ?_))
      unfold Hid
      go_wp2_with (first | (refine wpList_stK24 rfl _ _ rfl _ 4 (node16 2 2 32 1 (one0 38)) (node16 2 2 32 1 (one0 0)) 27 0 (by decide) rfl rfl rfl (K44.out.at 0 rfl) ?_; clear K44; generalize U2.setRow (g10) (node16 2 2 32 1 (one0 0)) = U3 at *; refine Hid.out ?_))
      unfold Hid
      go_wp2_with (first | (refine wpList_stK24 rfl _ _ rfl _ 3 (node16 2 2 32 1 (one0 0)) (node16 2 2 32 0 (one0 0)) 27 0 (by decide) rfl rfl rfl (K45.out.at 0 rfl) ?_; clear K45; generalize U3.setRow (g10) (node16 2 2 32 0 (one0 0)) = U4 at *; refine Hid.out ?_))
      unfold Hid
      generalize U4 = VV at *
      go_wp2_with (first | refine wpList_ldR 27 Try.underlying27 rfl rfl _ rfl _ rfl _ 27 (0, 0) (by exact size27) (K46.out.at 4 rfl) ?_ | (go_at_call 22; fail))
      refine (CH.out _).mono ?_
      rintro e' W47 ⟨rfl, hb⟩
      have K48 : Hid _ := K46.out.call hb
      clear hb K46
      go_wp2_with (first | refine wpList_ldR 27 Try.underlying27 rfl rfl _ rfl _ rfl _ 27 (0, 0) (by exact size27) (K48.out.at 3 rfl) ?_ | (go_at_call 22; fail))
      refine (CR.out _).mono ?_
      rintro e' W49 ⟨rfl, hb⟩
      have K50 : Hid _ := K48.out.call hb
      clear hb K48
      go_wp2_with (first | refine wpList_ldR 27 Try.underlying27 rfl rfl _ rfl _ rfl _ 27 (0, 0) (by exact size27) (K50.out.at 2 rfl) ?_ | (go_at_call 22; fail))
      refine (CE.out _).mono ?_
      rintro e' W51 ⟨rfl, hb⟩
      have K52 : Hid _ := K50.out.call hb
      clear hb K50
      go_wp2_with (first | refine wpList_ldR 27 Try.underlying27 rfl rfl _ rfl _ rfl _ 27 (0, 0) (by exact size27) (K52.out.at 1 rfl) ?_ | (go_at_call 22; fail))
      refine (CF.out _).mono ?_
      rintro e' W53 ⟨rfl, hb⟩
      have K54 : Hid _ := K52.out.call hb
      clear hb K52
      go_wp2_with (first | refine wpList_ldR 27 Try.underlying27 rfl rfl _ rfl _ rfl _ 27 (0, 0) (by exact size27) (K54.out.at 0 rfl) ?_ | (go_at_call 22; fail))
      refine (CG.out _).mono ?_
      rintro e' W55 ⟨rfl, hb⟩
      have K56 : Hid _ := K54.out.call hb
      clear hb K54
      have K57 : Hid _ := K56.out.alloc (node16 1 0 20000 1 (ten0 50))
      clear K56
      go_wp2_with (first | (refine wpList_stNew 27 rfl _ _ rfl _ (node16 1 0 20000 1 (ten0 50)) _ 27 (by exact size27) (by rfl) (node_one _ _ _ _ _) rfl rfl rfl ?_; refine Hid.out ?_))
      unfold Hid
      generalize W55.alloc (.cells (node16 1 0 20000 1 (ten0 50)) 27) = V58 at *
      generalize W55.heap.size = gL at *
      have K59 : Hid _ := K57.out.alloc (node16 1 0 20000 1 (ten0 50))
      go_wp2_with (first | refine wpList_ldR 27 Try.underlying27 rfl rfl _ rfl _ rfl _ 27 (0, 0) (by exact size27) (K57.out.at 0 rfl) ?_ | refine wpList_ldR 27 Try.underlying27 rfl rfl _ rfl _ rfl _ 27 (0, 0) (by exact size27) ((K57.out.alloc (node16 0 0 0 0 nought)).at 1 rfl) ?_ | (refine wpList_stNew 27 rfl _ _ rfl _ (node16 1 0 20000 1 (ten0 50)) _ 27 (by exact size27) (by rfl) (node_one _ _ _ _ _) rfl rfl rfl ?_; refine Hid.out ?_))
      unfold Hid
      clear K57
      generalize V58.alloc (.cells (node16 1 0 20000 1 (ten0 50)) 27) = VM at *
      generalize V58.heap.size = gM at *
      have K60 : Hid (KN w (VM.setRow (gM) (node16 1 0 20000 2 (ten0 50))) [(gM, (node16 1 0 20000 2 (ten0 50))), (gL, (node16 1 0 20000 1 (ten0 50))), (g10, (node16 2 2 32 0 (one0 0))), (g9, (node16 2 2 33 1 (one0 38))), (g8, (node16 2 1 32 1 (one0 38))), (gR, (node16 2 2 32 1 (one0 38))), (gH, (node16 1 1 2000 0 nought)), (gD, (node16 1 1 3 2 (one0 39))), (gC, (node16 1 1 3 2 (two0 39 40))), (gB, (node16 1 1 3 1 (one0 0))), (gA, (node16 1 1 3 1 (one0 37)))]) := K59.out.set 0 (node16 1 0 20000 2 (ten0 50)) rfl rfl
      go_wp2_with (first | (refine wpList_stK24 rfl _ _ rfl _ 3 (node16 1 0 20000 1 (ten0 50)) (node16 1 0 20000 2 (ten0 50)) 27 2 (by decide) rfl rfl rfl (K59.out.at 0 rfl) ?_; clear K59; generalize VM.setRow (gM) (node16 1 0 20000 2 (ten0 50)) = U1 at *; refine Hid.out ?_))
      unfold Hid
      generalize U1 = VN at *
      go_wp2_with (first | refine wpList_ldR 27 Try.underlying27 rfl rfl _ rfl _ rfl _ 27 (0, 0) (by exact size27) (K60.out.at 1 rfl) ?_ | (go_at_call 22; fail))
      refine (CL.out _).mono ?_
      rintro e' W61 ⟨rfl, hb⟩
      have K62 : Hid _ := K60.out.call hb
      clear hb K60
      go_wp2_with (first | refine wpList_ldR 27 Try.underlying27 rfl rfl _ rfl _ rfl _ 27 (0, 0) (by exact size27) (K62.out.at 0 rfl) ?_ | (go_at_call 22; fail))
      refine (CM.out _).mono ?_
      rintro e' W63 ⟨rfl, hb⟩
      have K64 : Hid _ := K62.out.call hb
      clear hb K62
      go_wp2_with (first | (go_at_call 22; fail))
      refine (CK.out _).mono ?_
      rintro e' W65 ⟨rfl, hb⟩
      have K66 : Hid _ := K64.out.call hb
      clear hb K64
      go_wp2_with (first | (go_at_call 22; fail))
      refine (CZ.out _).mono ?_
      rintro e' W67 ⟨rfl, hb⟩
      have K68 : Hid _ := K66.out.call hb
      clear hb K66
      go_wp2_with (first | (go_at_call 22; fail))
      refine (CT.out _).mono ?_
      rintro e' W69 ⟨rfl, hb⟩
      have K70 : Hid _ := K68.out.call hb
      clear hb K68
      go_wp2_with (first | (go_at_call 18; fail))
      refine (CW.out _).mono ?_
      rintro e' W71 ⟨rfl, hb⟩
      have K72 : Hid _ := K70.out.call hb
      clear hb K70
      go_wp2_with (first | (go_at_call 16; fail))
      refine (CX.out _).mono ?_
      rintro e' W73 ⟨rfl, hb⟩
      have K74 : Hid _ := K72.out.call hb
      clear hb K72
      go_wp2
      go_ret
      exact ⟨rfl, K74.out.bel⟩
    · skip
      refine wpT_make (v := .pointer (some ⟨V32.heap.size, 0, none⟩)) (w' := V32.alloc (.cells (node16 0 0 0 0 nought) 27)) rfl rfl (run_alloc27 _ rfl) (K31.out.alloc (node16 0 0 0 0 nought) |>.at 2 rfl) ?_ wpT_stop
      have K75 : Hid _ := K31.out.alloc (node16 0 0 0 0 nought)
      clear K31
      simp only [Act.put, List.setIfInBounds_toArray, List.set_cons_succ, List.set_cons_zero]
      generalize V32.heap.size = g10 at *
      generalize V32.alloc (.cells (node16 0 0 0 0 nought) 27) = V76 at *
      refine wpT_make (v := .pointer (some ⟨V76.heap.size, 0, none⟩)) (w' := V76.alloc (.cells (node16 0 0 0 0 nought) 27)) rfl rfl (run_alloc27 _ rfl) (K75.out.alloc (node16 0 0 0 0 nought) |>.at 3 rfl) ?_ wpT_stop
      have K77 : Hid _ := K75.out.alloc (node16 0 0 0 0 nought)
      clear K75
      simp only [Act.put, List.setIfInBounds_toArray, List.set_cons_succ, List.set_cons_zero]
      generalize V76.heap.size = g9 at *
      generalize V76.alloc (.cells (node16 0 0 0 0 nought) 27) = V78 at *
      have K79 : Hid (KN w (V78.setRow g8 (node16 2 2 32 1 (one0 38))) [(g9, (node16 0 0 0 0 nought)), (g10, (node16 0 0 0 0 nought)), (g8, (node16 2 2 32 1 (one0 38))), (gR, (node16 2 2 32 1 (one0 38))), (gH, (node16 1 1 2000 0 nought)), (gD, (node16 1 1 3 2 (one0 39))), (gC, (node16 1 1 3 2 (two0 39 40))), (gB, (node16 1 1 3 1 (one0 0))), (gA, (node16 1 1 3 1 (one0 37)))]) := K77.out.set 2 (node16 2 2 32 1 (one0 38)) rfl rfl
      refine wpT_do (w' := V78.setRow g8 (node16 2 2 32 1 (one0 38))) rfl rfl (run_st27 _ g8 (K77.out.at 2 rfl) _ _ rfl rfl rfl rfl (node_one _ _ _ _ _) rfl) (K79.out.at 3 rfl) ?_ wpT_stop
      simp only [Act.put]
      clear K77
      generalize V78.setRow g8 (node16 2 2 32 1 (one0 38)) = V80 at *
      have K81 : Hid (KN w (V80.setRow g9 (node16 2 2 32 1 (one0 38))) [(g9, (node16 2 2 32 1 (one0 38))), (g10, (node16 0 0 0 0 nought)), (g8, (node16 2 2 32 1 (one0 38))), (gR, (node16 2 2 32 1 (one0 38))), (gH, (node16 1 1 2000 0 nought)), (gD, (node16 1 1 3 2 (one0 39))), (gC, (node16 1 1 3 2 (two0 39 40))), (gB, (node16 1 1 3 1 (one0 0))), (gA, (node16 1 1 3 1 (one0 37)))]) := K79.out.set 0 (node16 2 2 32 1 (one0 38)) rfl rfl
      refine wpT_do (w' := V80.setRow g9 (node16 2 2 32 1 (one0 38))) rfl rfl (run_st27 _ g9 (K79.out.at 0 rfl) _ _ rfl rfl rfl rfl (node_one _ _ _ _ _) rfl) (K81.out.at 3 rfl) ?_ wpT_stop
      simp only [Act.put]
      clear K79
      generalize V80.setRow g9 (node16 2 2 32 1 (one0 38)) = V82 at *
      have K83 : Hid (KN w (V82.setRow g10 (node16 2 2 32 1 (one0 38))) [(g9, (node16 2 2 32 1 (one0 38))), (g10, (node16 2 2 32 1 (one0 38))), (g8, (node16 2 2 32 1 (one0 38))), (gR, (node16 2 2 32 1 (one0 38))), (gH, (node16 1 1 2000 0 nought)), (gD, (node16 1 1 3 2 (one0 39))), (gC, (node16 1 1 3 2 (two0 39 40))), (gB, (node16 1 1 3 1 (one0 0))), (gA, (node16 1 1 3 1 (one0 37)))]) := K81.out.set 1 (node16 2 2 32 1 (one0 38)) rfl rfl
      refine wpT_do (w' := V82.setRow g10 (node16 2 2 32 1 (one0 38))) rfl rfl (run_st27 _ g10 (K81.out.at 1 rfl) _ _ rfl rfl rfl rfl (node_one _ _ _ _ _) rfl) (K83.out.at 3 rfl) ?_ wpT_stop
      simp only [Act.put]
      clear K81
      generalize V82.setRow g10 (node16 2 2 32 1 (one0 38)) = V84 at *
      refine wpT_fin ?_
      have K85 : Hid (KN w (V84.setRow (g8) (node16 2 1 32 1 (one0 38))) [(g9, (node16 2 2 32 1 (one0 38))), (g10, (node16 2 2 32 1 (one0 38))), (g8, (node16 2 1 32 1 (one0 38))), (gR, (node16 2 2 32 1 (one0 38))), (gH, (node16 1 1 2000 0 nought)), (gD, (node16 1 1 3 2 (one0 39))), (gC, (node16 1 1 3 2 (two0 39 40))), (gB, (node16 1 1 3 1 (one0 0))), (gA, (node16 1 1 3 1 (one0 37)))]) := K83.out.set 2 (node16 2 1 32 1 (one0 38)) rfl rfl
      have K86 : Hid (KN w ((V84.setRow (g8) (node16 2 1 32 1 (one0 38))).setRow (g9) (node16 2 2 33 1 (one0 38))) [(g9, (node16 2 2 33 1 (one0 38))), (g10, (node16 2 2 32 1 (one0 38))), (g8, (node16 2 1 32 1 (one0 38))), (gR, (node16 2 2 32 1 (one0 38))), (gH, (node16 1 1 2000 0 nought)), (gD, (node16 1 1 3 2 (one0 39))), (gC, (node16 1 1 3 2 (two0 39 40))), (gB, (node16 1 1 3 1 (one0 0))), (gA, (node16 1 1 3 1 (one0 37)))]) := K85.out.set 0 (node16 2 2 33 1 (one0 38)) rfl rfl
      have K87 : Hid (KN w (((V84.setRow (g8) (node16 2 1 32 1 (one0 38))).setRow (g9) (node16 2 2 33 1 (one0 38))).setRow (g10) (node16 2 2 32 1 (one0 0))) [(g9, (node16 2 2 33 1 (one0 38))), (g10, (node16 2 2 32 1 (one0 0))), (g8, (node16 2 1 32 1 (one0 38))), (gR, (node16 2 2 32 1 (one0 38))), (gH, (node16 1 1 2000 0 nought)), (gD, (node16 1 1 3 2 (one0 39))), (gC, (node16 1 1 3 2 (two0 39 40))), (gB, (node16 1 1 3 1 (one0 0))), (gA, (node16 1 1 3 1 (one0 37)))]) := K86.out.set 1 (node16 2 2 32 1 (one0 0)) rfl rfl
      have K88 : Hid (KN w ((((V84.setRow (g8) (node16 2 1 32 1 (one0 38))).setRow (g9) (node16 2 2 33 1 (one0 38))).setRow (g10) (node16 2 2 32 1 (one0 0))).setRow (g10) (node16 2 2 32 0 (one0 0))) [(g9, (node16 2 2 33 1 (one0 38))), (g10, (node16 2 2 32 0 (one0 0))), (g8, (node16 2 1 32 1 (one0 38))), (gR, (node16 2 2 32 1 (one0 38))), (gH, (node16 1 1 2000 0 nought)), (gD, (node16 1 1 3 2 (one0 39))), (gC, (node16 1 1 3 2 (two0 39 40))), (gB, (node16 1 1 3 1 (one0 0))), (gA, (node16 1 1 3 1 (one0 37)))]) := K87.out.set 1 (node16 2 2 32 0 (one0 0)) rfl rfl
      go_wp2_with (first | (refine wpList_stK22 rfl _ _ rfl _ 1 (node16 2 2 32 1 (one0 38)) (node16 2 1 32 1 (one0 38)) 27 1 (by decide) rfl rfl rfl (K83.out.at 2 rfl) ?_; clear K83; generalize V84.setRow (g8) (node16 2 1 32 1 (one0 38)) = U1 at *; refine Hid.out ?_))
      unfold Hid
      go_wp2_with (first | (refine wpList_stK24 rfl _ _ rfl _ 2 (node16 2 2 32 1 (one0 38)) (node16 2 2 33 1 (one0 38)) 27 33 (by decide) rfl rfl rfl (K85.out.at 0 rfl) ?_; clear K85; generalize U1.setRow (g9) (node16 2 2 33 1 (one0 38)) = U2 at *; refine Hid.out ?_))
      unfold Hid
      go_wp2_with (first | (refine wpList_stK24 rfl _ _ rfl _ 4 (node16 2 2 32 1 (one0 38)) (node16 2 2 32 1 (one0 0)) 27 0 (by decide) rfl rfl rfl (K86.out.at 1 rfl) ?_; clear K86; generalize U2.setRow (g10) (node16 2 2 32 1 (one0 0)) = U3 at *; refine Hid.out ?_))
      unfold Hid
      go_wp2_with (first | (refine wpList_stK24 rfl _ _ rfl _ 3 (node16 2 2 32 1 (one0 0)) (node16 2 2 32 0 (one0 0)) 27 0 (by decide) rfl rfl rfl (K87.out.at 1 rfl) ?_; clear K87; generalize U3.setRow (g10) (node16 2 2 32 0 (one0 0)) = U4 at *; refine Hid.out ?_))
      unfold Hid
      generalize U4 = VV at *
      go_wp2_with (first | refine wpList_ldR 27 Try.underlying27 rfl rfl _ rfl _ rfl _ 27 (0, 0) (by exact size27) (K88.out.at 4 rfl) ?_ | (go_at_call 22; fail))
      refine (CH.out _).mono ?_
      rintro e' W89 ⟨rfl, hb⟩
      have K90 : Hid _ := K88.out.call hb
      clear hb K88
      go_wp2_with (first | refine wpList_ldR 27 Try.underlying27 rfl rfl _ rfl _ rfl _ 27 (0, 0) (by exact size27) (K90.out.at 3 rfl) ?_ | (go_at_call 22; fail))
      refine (CR.out _).mono ?_
      rintro e' W91 ⟨rfl, hb⟩
      have K92 : Hid _ := K90.out.call hb
      clear hb K90
      go_wp2_with (first | refine wpList_ldR 27 Try.underlying27 rfl rfl _ rfl _ rfl _ 27 (0, 0) (by exact size27) (K92.out.at 2 rfl) ?_ | (go_at_call 22; fail))
      refine (CE.out _).mono ?_
      rintro e' W93 ⟨rfl, hb⟩
      have K94 : Hid _ := K92.out.call hb
      clear hb K92
      go_wp2_with (first | refine wpList_ldR 27 Try.underlying27 rfl rfl _ rfl _ rfl _ 27 (0, 0) (by exact size27) (K94.out.at 0 rfl) ?_ | (go_at_call 22; fail))
      refine (CF.out _).mono ?_
      rintro e' W95 ⟨rfl, hb⟩
      have K96 : Hid _ := K94.out.call hb
      clear hb K94
      go_wp2_with (first | refine wpList_ldR 27 Try.underlying27 rfl rfl _ rfl _ rfl _ 27 (0, 0) (by exact size27) (K96.out.at 1 rfl) ?_ | (go_at_call 22; fail))
      refine (CG.out _).mono ?_
      rintro e' W97 ⟨rfl, hb⟩
      have K98 : Hid _ := K96.out.call hb
      clear hb K96
      have K99 : Hid _ := K98.out.alloc (node16 1 0 20000 1 (ten0 50))
      clear K98
      go_wp2_with (first | (refine wpList_stNew 27 rfl _ _ rfl _ (node16 1 0 20000 1 (ten0 50)) _ 27 (by exact size27) (by rfl) (node_one _ _ _ _ _) rfl rfl rfl ?_; refine Hid.out ?_))
      unfold Hid
      generalize W97.alloc (.cells (node16 1 0 20000 1 (ten0 50)) 27) = V100 at *
      generalize W97.heap.size = gL at *
      have K101 : Hid _ := K99.out.alloc (node16 1 0 20000 1 (ten0 50))
      go_wp2_with (first | refine wpList_ldR 27 Try.underlying27 rfl rfl _ rfl _ rfl _ 27 (0, 0) (by exact size27) (K99.out.at 0 rfl) ?_ | refine wpList_ldR 27 Try.underlying27 rfl rfl _ rfl _ rfl _ 27 (0, 0) (by exact size27) ((K99.out.alloc (node16 0 0 0 0 nought)).at 1 rfl) ?_ | (refine wpList_stNew 27 rfl _ _ rfl _ (node16 1 0 20000 1 (ten0 50)) _ 27 (by exact size27) (by rfl) (node_one _ _ _ _ _) rfl rfl rfl ?_; refine Hid.out ?_))
      unfold Hid
      clear K99
      generalize V100.alloc (.cells (node16 1 0 20000 1 (ten0 50)) 27) = VM at *
      generalize V100.heap.size = gM at *
      have K102 : Hid (KN w (VM.setRow (gM) (node16 1 0 20000 2 (ten0 50))) [(gM, (node16 1 0 20000 2 (ten0 50))), (gL, (node16 1 0 20000 1 (ten0 50))), (g9, (node16 2 2 33 1 (one0 38))), (g10, (node16 2 2 32 0 (one0 0))), (g8, (node16 2 1 32 1 (one0 38))), (gR, (node16 2 2 32 1 (one0 38))), (gH, (node16 1 1 2000 0 nought)), (gD, (node16 1 1 3 2 (one0 39))), (gC, (node16 1 1 3 2 (two0 39 40))), (gB, (node16 1 1 3 1 (one0 0))), (gA, (node16 1 1 3 1 (one0 37)))]) := K101.out.set 0 (node16 1 0 20000 2 (ten0 50)) rfl rfl
      go_wp2_with (first | (refine wpList_stK24 rfl _ _ rfl _ 3 (node16 1 0 20000 1 (ten0 50)) (node16 1 0 20000 2 (ten0 50)) 27 2 (by decide) rfl rfl rfl (K101.out.at 0 rfl) ?_; clear K101; generalize VM.setRow (gM) (node16 1 0 20000 2 (ten0 50)) = U1 at *; refine Hid.out ?_))
      unfold Hid
      generalize U1 = VN at *
      go_wp2_with (first | refine wpList_ldR 27 Try.underlying27 rfl rfl _ rfl _ rfl _ 27 (0, 0) (by exact size27) (K102.out.at 1 rfl) ?_ | (go_at_call 22; fail))
      refine (CL.out _).mono ?_
      rintro e' W103 ⟨rfl, hb⟩
      have K104 : Hid _ := K102.out.call hb
      clear hb K102
      go_wp2_with (first | refine wpList_ldR 27 Try.underlying27 rfl rfl _ rfl _ rfl _ 27 (0, 0) (by exact size27) (K104.out.at 0 rfl) ?_ | (go_at_call 22; fail))
      refine (CM.out _).mono ?_
      rintro e' W105 ⟨rfl, hb⟩
      have K106 : Hid _ := K104.out.call hb
      clear hb K104
      go_wp2_with (first | (go_at_call 22; fail))
      refine (CK.out _).mono ?_
      rintro e' W107 ⟨rfl, hb⟩
      have K108 : Hid _ := K106.out.call hb
      clear hb K106
      go_wp2_with (first | (go_at_call 22; fail))
      refine (CZ.out _).mono ?_
      rintro e' W109 ⟨rfl, hb⟩
      have K110 : Hid _ := K108.out.call hb
      clear hb K108
      go_wp2_with (first | (go_at_call 22; fail))
      refine (CT.out _).mono ?_
      rintro e' W111 ⟨rfl, hb⟩
      have K112 : Hid _ := K110.out.call hb
      clear hb K110
      go_wp2_with (first | (go_at_call 18; fail))
      refine (CW.out _).mono ?_
      rintro e' W113 ⟨rfl, hb⟩
      have K114 : Hid _ := K112.out.call hb
      clear hb K112
      go_wp2_with (first | (go_at_call 16; fail))
      refine (CX.out _).mono ?_
      rintro e' W115 ⟨rfl, hb⟩
      have K116 : Hid _ := K114.out.call hb
      clear hb K114
      go_wp2
      go_ret
      exact ⟨rfl, K116.out.bel⟩
  · skip
    refine wpT_make (v := .pointer (some ⟨VD.heap.size, 0, none⟩)) (w' := VD.alloc (.cells (node16 0 0 0 0 nought) 27)) rfl rfl (run_alloc27 _ rfl) (KD.out.alloc (node16 0 0 0 0 nought) |>.at 1 rfl) ?_ ?_
    · skip
      have K117 : Hid _ := KD.out.alloc (node16 0 0 0 0 nought)
      clear KD
      simp only [Act.put, List.setIfInBounds_toArray, List.set_cons_succ, List.set_cons_zero]
      generalize VD.heap.size = g9 at *
      generalize VD.alloc (.cells (node16 0 0 0 0 nought) 27) = V118 at *
      refine wpT_make (v := .pointer (some ⟨V118.heap.size, 0, none⟩)) (w' := V118.alloc (.cells (node16 0 0 0 0 nought) 27)) rfl rfl (run_alloc27 _ rfl) (K117.out.alloc (node16 0 0 0 0 nought) |>.at 2 rfl) ?_ ?_
      · skip
        have K119 : Hid _ := K117.out.alloc (node16 0 0 0 0 nought)
        clear K117
        simp only [Act.put, List.setIfInBounds_toArray, List.set_cons_succ, List.set_cons_zero]
        generalize V118.heap.size = g8 at *
        generalize V118.alloc (.cells (node16 0 0 0 0 nought) 27) = V120 at *
        refine wpT_make (v := .pointer (some ⟨V120.heap.size, 0, none⟩)) (w' := V120.alloc (.cells (node16 0 0 0 0 nought) 27)) rfl rfl (run_alloc27 _ rfl) (K119.out.alloc (node16 0 0 0 0 nought) |>.at 3 rfl) ?_ wpT_stop
        have K121 : Hid _ := K119.out.alloc (node16 0 0 0 0 nought)
        clear K119
        simp only [Act.put, List.setIfInBounds_toArray, List.set_cons_succ, List.set_cons_zero]
        generalize V120.heap.size = g10 at *
        generalize V120.alloc (.cells (node16 0 0 0 0 nought) 27) = V122 at *
        have K123 : Hid (KN w (V122.setRow g8 (node16 2 2 32 1 (one0 38))) [(g10, (node16 0 0 0 0 nought)), (g8, (node16 2 2 32 1 (one0 38))), (g9, (node16 0 0 0 0 nought)), (gR, (node16 2 2 32 1 (one0 38))), (gH, (node16 1 1 2000 0 nought)), (gD, (node16 1 1 3 2 (one0 39))), (gC, (node16 1 1 3 2 (two0 39 40))), (gB, (node16 1 1 3 1 (one0 0))), (gA, (node16 1 1 3 1 (one0 37)))]) := K121.out.set 1 (node16 2 2 32 1 (one0 38)) rfl rfl
        refine wpT_do (w' := V122.setRow g8 (node16 2 2 32 1 (one0 38))) rfl rfl (run_st27 _ g8 (K121.out.at 1 rfl) _ _ rfl rfl rfl rfl (node_one _ _ _ _ _) rfl) (K123.out.at 3 rfl) ?_ wpT_stop
        simp only [Act.put]
        clear K121
        generalize V122.setRow g8 (node16 2 2 32 1 (one0 38)) = V124 at *
        have K125 : Hid (KN w (V124.setRow g9 (node16 2 2 32 1 (one0 38))) [(g10, (node16 0 0 0 0 nought)), (g8, (node16 2 2 32 1 (one0 38))), (g9, (node16 2 2 32 1 (one0 38))), (gR, (node16 2 2 32 1 (one0 38))), (gH, (node16 1 1 2000 0 nought)), (gD, (node16 1 1 3 2 (one0 39))), (gC, (node16 1 1 3 2 (two0 39 40))), (gB, (node16 1 1 3 1 (one0 0))), (gA, (node16 1 1 3 1 (one0 37)))]) := K123.out.set 2 (node16 2 2 32 1 (one0 38)) rfl rfl
        refine wpT_do (w' := V124.setRow g9 (node16 2 2 32 1 (one0 38))) rfl rfl (run_st27 _ g9 (K123.out.at 2 rfl) _ _ rfl rfl rfl rfl (node_one _ _ _ _ _) rfl) (K125.out.at 3 rfl) ?_ wpT_stop
        simp only [Act.put]
        clear K123
        generalize V124.setRow g9 (node16 2 2 32 1 (one0 38)) = V126 at *
        have K127 : Hid (KN w (V126.setRow g10 (node16 2 2 32 1 (one0 38))) [(g10, (node16 2 2 32 1 (one0 38))), (g8, (node16 2 2 32 1 (one0 38))), (g9, (node16 2 2 32 1 (one0 38))), (gR, (node16 2 2 32 1 (one0 38))), (gH, (node16 1 1 2000 0 nought)), (gD, (node16 1 1 3 2 (one0 39))), (gC, (node16 1 1 3 2 (two0 39 40))), (gB, (node16 1 1 3 1 (one0 0))), (gA, (node16 1 1 3 1 (one0 37)))]) := K125.out.set 0 (node16 2 2 32 1 (one0 38)) rfl rfl
        refine wpT_do (w' := V126.setRow g10 (node16 2 2 32 1 (one0 38))) rfl rfl (run_st27 _ g10 (K125.out.at 0 rfl) _ _ rfl rfl rfl rfl (node_one _ _ _ _ _) rfl) (K127.out.at 3 rfl) ?_ wpT_stop
        simp only [Act.put]
        clear K125
        generalize V126.setRow g10 (node16 2 2 32 1 (one0 38)) = V128 at *
        refine wpT_fin ?_
        have K129 : Hid (KN w (V128.setRow (g8) (node16 2 1 32 1 (one0 38))) [(g10, (node16 2 2 32 1 (one0 38))), (g8, (node16 2 1 32 1 (one0 38))), (g9, (node16 2 2 32 1 (one0 38))), (gR, (node16 2 2 32 1 (one0 38))), (gH, (node16 1 1 2000 0 nought)), (gD, (node16 1 1 3 2 (one0 39))), (gC, (node16 1 1 3 2 (two0 39 40))), (gB, (node16 1 1 3 1 (one0 0))), (gA, (node16 1 1 3 1 (one0 37)))]) := K127.out.set 1 (node16 2 1 32 1 (one0 38)) rfl rfl
        have K130 : Hid (KN w ((V128.setRow (g8) (node16 2 1 32 1 (one0 38))).setRow (g9) (node16 2 2 33 1 (one0 38))) [(g10, (node16 2 2 32 1 (one0 38))), (g8, (node16 2 1 32 1 (one0 38))), (g9, (node16 2 2 33 1 (one0 38))), (gR, (node16 2 2 32 1 (one0 38))), (gH, (node16 1 1 2000 0 nought)), (gD, (node16 1 1 3 2 (one0 39))), (gC, (node16 1 1 3 2 (two0 39 40))), (gB, (node16 1 1 3 1 (one0 0))), (gA, (node16 1 1 3 1 (one0 37)))]) := K129.out.set 2 (node16 2 2 33 1 (one0 38)) rfl rfl
        have K131 : Hid (KN w (((V128.setRow (g8) (node16 2 1 32 1 (one0 38))).setRow (g9) (node16 2 2 33 1 (one0 38))).setRow (g10) (node16 2 2 32 1 (one0 0))) [(g10, (node16 2 2 32 1 (one0 0))), (g8, (node16 2 1 32 1 (one0 38))), (g9, (node16 2 2 33 1 (one0 38))), (gR, (node16 2 2 32 1 (one0 38))), (gH, (node16 1 1 2000 0 nought)), (gD, (node16 1 1 3 2 (one0 39))), (gC, (node16 1 1 3 2 (two0 39 40))), (gB, (node16 1 1 3 1 (one0 0))), (gA, (node16 1 1 3 1 (one0 37)))]) := K130.out.set 0 (node16 2 2 32 1 (one0 0)) rfl rfl
        have K132 : Hid (KN w ((((V128.setRow (g8) (node16 2 1 32 1 (one0 38))).setRow (g9) (node16 2 2 33 1 (one0 38))).setRow (g10) (node16 2 2 32 1 (one0 0))).setRow (g10) (node16 2 2 32 0 (one0 0))) [(g10, (node16 2 2 32 0 (one0 0))), (g8, (node16 2 1 32 1 (one0 38))), (g9, (node16 2 2 33 1 (one0 38))), (gR, (node16 2 2 32 1 (one0 38))), (gH, (node16 1 1 2000 0 nought)), (gD, (node16 1 1 3 2 (one0 39))), (gC, (node16 1 1 3 2 (two0 39 40))), (gB, (node16 1 1 3 1 (one0 0))), (gA, (node16 1 1 3 1 (one0 37)))]) := K131.out.set 0 (node16 2 2 32 0 (one0 0)) rfl rfl
        go_wp2_with (first | (refine wpList_stK22 rfl _ _ rfl _ 1 (node16 2 2 32 1 (one0 38)) (node16 2 1 32 1 (one0 38)) 27 1 (by decide) rfl rfl rfl (K127.out.at 1 rfl) ?_; clear K127; generalize V128.setRow (g8) (node16 2 1 32 1 (one0 38)) = U1 at *; refine Hid.out ?_))
        unfold Hid
        go_wp2_with (first | (refine wpList_stK24 rfl _ _ rfl _ 2 (node16 2 2 32 1 (one0 38)) (node16 2 2 33 1 (one0 38)) 27 33 (by decide) rfl rfl rfl (K129.out.at 2 rfl) ?_; clear K129; generalize U1.setRow (g9) (node16 2 2 33 1 (one0 38)) = U2 at *; refine Hid.out ?_))
        unfold Hid
        go_wp2_with (first | (refine wpList_stK24 rfl _ _ rfl _ 4 (node16 2 2 32 1 (one0 38)) (node16 2 2 32 1 (one0 0)) 27 0 (by decide) rfl rfl rfl (K130.out.at 0 rfl) ?_; clear K130; generalize U2.setRow (g10) (node16 2 2 32 1 (one0 0)) = U3 at *; refine Hid.out ?_))
        unfold Hid
        go_wp2_with (first | (refine wpList_stK24 rfl _ _ rfl _ 3 (node16 2 2 32 1 (one0 0)) (node16 2 2 32 0 (one0 0)) 27 0 (by decide) rfl rfl rfl (K131.out.at 0 rfl) ?_; clear K131; generalize U3.setRow (g10) (node16 2 2 32 0 (one0 0)) = U4 at *; refine Hid.out ?_))
        unfold Hid
        generalize U4 = VV at *
        go_wp2_with (first | refine wpList_ldR 27 Try.underlying27 rfl rfl _ rfl _ rfl _ 27 (0, 0) (by exact size27) (K132.out.at 4 rfl) ?_ | (go_at_call 22; fail))
        refine (CH.out _).mono ?_
        rintro e' W133 ⟨rfl, hb⟩
        have K134 : Hid _ := K132.out.call hb
        clear hb K132
        go_wp2_with (first | refine wpList_ldR 27 Try.underlying27 rfl rfl _ rfl _ rfl _ 27 (0, 0) (by exact size27) (K134.out.at 3 rfl) ?_ | (go_at_call 22; fail))
        refine (CR.out _).mono ?_
        rintro e' W135 ⟨rfl, hb⟩
        have K136 : Hid _ := K134.out.call hb
        clear hb K134
        go_wp2_with (first | refine wpList_ldR 27 Try.underlying27 rfl rfl _ rfl _ rfl _ 27 (0, 0) (by exact size27) (K136.out.at 1 rfl) ?_ | (go_at_call 22; fail))
        refine (CE.out _).mono ?_
        rintro e' W137 ⟨rfl, hb⟩
        have K138 : Hid _ := K136.out.call hb
        clear hb K136
        go_wp2_with (first | refine wpList_ldR 27 Try.underlying27 rfl rfl _ rfl _ rfl _ 27 (0, 0) (by exact size27) (K138.out.at 2 rfl) ?_ | (go_at_call 22; fail))
        refine (CF.out _).mono ?_
        rintro e' W139 ⟨rfl, hb⟩
        have K140 : Hid _ := K138.out.call hb
        clear hb K138
        go_wp2_with (first | refine wpList_ldR 27 Try.underlying27 rfl rfl _ rfl _ rfl _ 27 (0, 0) (by exact size27) (K140.out.at 0 rfl) ?_ | (go_at_call 22; fail))
        refine (CG.out _).mono ?_
        rintro e' W141 ⟨rfl, hb⟩
        have K142 : Hid _ := K140.out.call hb
        clear hb K140
        have K143 : Hid _ := K142.out.alloc (node16 1 0 20000 1 (ten0 50))
        clear K142
        go_wp2_with (first | (refine wpList_stNew 27 rfl _ _ rfl _ (node16 1 0 20000 1 (ten0 50)) _ 27 (by exact size27) (by rfl) (node_one _ _ _ _ _) rfl rfl rfl ?_; refine Hid.out ?_))
        unfold Hid
        generalize W141.alloc (.cells (node16 1 0 20000 1 (ten0 50)) 27) = V144 at *
        generalize W141.heap.size = gL at *
        have K145 : Hid _ := K143.out.alloc (node16 1 0 20000 1 (ten0 50))
        go_wp2_with (first | refine wpList_ldR 27 Try.underlying27 rfl rfl _ rfl _ rfl _ 27 (0, 0) (by exact size27) (K143.out.at 0 rfl) ?_ | refine wpList_ldR 27 Try.underlying27 rfl rfl _ rfl _ rfl _ 27 (0, 0) (by exact size27) ((K143.out.alloc (node16 0 0 0 0 nought)).at 1 rfl) ?_ | (refine wpList_stNew 27 rfl _ _ rfl _ (node16 1 0 20000 1 (ten0 50)) _ 27 (by exact size27) (by rfl) (node_one _ _ _ _ _) rfl rfl rfl ?_; refine Hid.out ?_))
        unfold Hid
        clear K143
        generalize V144.alloc (.cells (node16 1 0 20000 1 (ten0 50)) 27) = VM at *
        generalize V144.heap.size = gM at *
        have K146 : Hid (KN w (VM.setRow (gM) (node16 1 0 20000 2 (ten0 50))) [(gM, (node16 1 0 20000 2 (ten0 50))), (gL, (node16 1 0 20000 1 (ten0 50))), (g10, (node16 2 2 32 0 (one0 0))), (g8, (node16 2 1 32 1 (one0 38))), (g9, (node16 2 2 33 1 (one0 38))), (gR, (node16 2 2 32 1 (one0 38))), (gH, (node16 1 1 2000 0 nought)), (gD, (node16 1 1 3 2 (one0 39))), (gC, (node16 1 1 3 2 (two0 39 40))), (gB, (node16 1 1 3 1 (one0 0))), (gA, (node16 1 1 3 1 (one0 37)))]) := K145.out.set 0 (node16 1 0 20000 2 (ten0 50)) rfl rfl
        go_wp2_with (first | (refine wpList_stK24 rfl _ _ rfl _ 3 (node16 1 0 20000 1 (ten0 50)) (node16 1 0 20000 2 (ten0 50)) 27 2 (by decide) rfl rfl rfl (K145.out.at 0 rfl) ?_; clear K145; generalize VM.setRow (gM) (node16 1 0 20000 2 (ten0 50)) = U1 at *; refine Hid.out ?_))
        unfold Hid
        generalize U1 = VN at *
        go_wp2_with (first | refine wpList_ldR 27 Try.underlying27 rfl rfl _ rfl _ rfl _ 27 (0, 0) (by exact size27) (K146.out.at 1 rfl) ?_ | (go_at_call 22; fail))
        refine (CL.out _).mono ?_
        rintro e' W147 ⟨rfl, hb⟩
        have K148 : Hid _ := K146.out.call hb
        clear hb K146
        go_wp2_with (first | refine wpList_ldR 27 Try.underlying27 rfl rfl _ rfl _ rfl _ 27 (0, 0) (by exact size27) (K148.out.at 0 rfl) ?_ | (go_at_call 22; fail))
        refine (CM.out _).mono ?_
        rintro e' W149 ⟨rfl, hb⟩
        have K150 : Hid _ := K148.out.call hb
        clear hb K148
        go_wp2_with (first | (go_at_call 22; fail))
        refine (CK.out _).mono ?_
        rintro e' W151 ⟨rfl, hb⟩
        have K152 : Hid _ := K150.out.call hb
        clear hb K150
        go_wp2_with (first | (go_at_call 22; fail))
        refine (CZ.out _).mono ?_
        rintro e' W153 ⟨rfl, hb⟩
        have K154 : Hid _ := K152.out.call hb
        clear hb K152
        go_wp2_with (first | (go_at_call 22; fail))
        refine (CT.out _).mono ?_
        rintro e' W155 ⟨rfl, hb⟩
        have K156 : Hid _ := K154.out.call hb
        clear hb K154
        go_wp2_with (first | (go_at_call 18; fail))
        refine (CW.out _).mono ?_
        rintro e' W157 ⟨rfl, hb⟩
        have K158 : Hid _ := K156.out.call hb
        clear hb K156
        go_wp2_with (first | (go_at_call 16; fail))
        refine (CX.out _).mono ?_
        rintro e' W159 ⟨rfl, hb⟩
        have K160 : Hid _ := K158.out.call hb
        clear hb K158
        go_wp2
        go_ret
        exact ⟨rfl, K160.out.bel⟩
      · skip
        refine wpT_make (v := .pointer (some ⟨V118.heap.size, 0, none⟩)) (w' := V118.alloc (.cells (node16 0 0 0 0 nought) 27)) rfl rfl (run_alloc27 _ rfl) (K117.out.alloc (node16 0 0 0 0 nought) |>.at 2 rfl) ?_ wpT_stop
        have K161 : Hid _ := K117.out.alloc (node16 0 0 0 0 nought)
        clear K117
        simp only [Act.put, List.setIfInBounds_toArray, List.set_cons_succ, List.set_cons_zero]
        generalize V118.heap.size = g10 at *
        generalize V118.alloc (.cells (node16 0 0 0 0 nought) 27) = V162 at *
        refine wpT_make (v := .pointer (some ⟨V162.heap.size, 0, none⟩)) (w' := V162.alloc (.cells (node16 0 0 0 0 nought) 27)) rfl rfl (run_alloc27 _ rfl) (K161.out.alloc (node16 0 0 0 0 nought) |>.at 3 rfl) ?_ wpT_stop
        have K163 : Hid _ := K161.out.alloc (node16 0 0 0 0 nought)
        clear K161
        simp only [Act.put, List.setIfInBounds_toArray, List.set_cons_succ, List.set_cons_zero]
        generalize V162.heap.size = g8 at *
        generalize V162.alloc (.cells (node16 0 0 0 0 nought) 27) = V164 at *
        have K165 : Hid (KN w (V164.setRow g8 (node16 2 2 32 1 (one0 38))) [(g8, (node16 2 2 32 1 (one0 38))), (g10, (node16 0 0 0 0 nought)), (g9, (node16 0 0 0 0 nought)), (gR, (node16 2 2 32 1 (one0 38))), (gH, (node16 1 1 2000 0 nought)), (gD, (node16 1 1 3 2 (one0 39))), (gC, (node16 1 1 3 2 (two0 39 40))), (gB, (node16 1 1 3 1 (one0 0))), (gA, (node16 1 1 3 1 (one0 37)))]) := K163.out.set 0 (node16 2 2 32 1 (one0 38)) rfl rfl
        refine wpT_do (w' := V164.setRow g8 (node16 2 2 32 1 (one0 38))) rfl rfl (run_st27 _ g8 (K163.out.at 0 rfl) _ _ rfl rfl rfl rfl (node_one _ _ _ _ _) rfl) (K165.out.at 3 rfl) ?_ wpT_stop
        simp only [Act.put]
        clear K163
        generalize V164.setRow g8 (node16 2 2 32 1 (one0 38)) = V166 at *
        have K167 : Hid (KN w (V166.setRow g9 (node16 2 2 32 1 (one0 38))) [(g8, (node16 2 2 32 1 (one0 38))), (g10, (node16 0 0 0 0 nought)), (g9, (node16 2 2 32 1 (one0 38))), (gR, (node16 2 2 32 1 (one0 38))), (gH, (node16 1 1 2000 0 nought)), (gD, (node16 1 1 3 2 (one0 39))), (gC, (node16 1 1 3 2 (two0 39 40))), (gB, (node16 1 1 3 1 (one0 0))), (gA, (node16 1 1 3 1 (one0 37)))]) := K165.out.set 2 (node16 2 2 32 1 (one0 38)) rfl rfl
        refine wpT_do (w' := V166.setRow g9 (node16 2 2 32 1 (one0 38))) rfl rfl (run_st27 _ g9 (K165.out.at 2 rfl) _ _ rfl rfl rfl rfl (node_one _ _ _ _ _) rfl) (K167.out.at 3 rfl) ?_ wpT_stop
        simp only [Act.put]
        clear K165
        generalize V166.setRow g9 (node16 2 2 32 1 (one0 38)) = V168 at *
        have K169 : Hid (KN w (V168.setRow g10 (node16 2 2 32 1 (one0 38))) [(g8, (node16 2 2 32 1 (one0 38))), (g10, (node16 2 2 32 1 (one0 38))), (g9, (node16 2 2 32 1 (one0 38))), (gR, (node16 2 2 32 1 (one0 38))), (gH, (node16 1 1 2000 0 nought)), (gD, (node16 1 1 3 2 (one0 39))), (gC, (node16 1 1 3 2 (two0 39 40))), (gB, (node16 1 1 3 1 (one0 0))), (gA, (node16 1 1 3 1 (one0 37)))]) := K167.out.set 1 (node16 2 2 32 1 (one0 38)) rfl rfl
        refine wpT_do (w' := V168.setRow g10 (node16 2 2 32 1 (one0 38))) rfl rfl (run_st27 _ g10 (K167.out.at 1 rfl) _ _ rfl rfl rfl rfl (node_one _ _ _ _ _) rfl) (K169.out.at 3 rfl) ?_ wpT_stop
        simp only [Act.put]
        clear K167
        generalize V168.setRow g10 (node16 2 2 32 1 (one0 38)) = V170 at *
        refine wpT_fin ?_
        have K171 : Hid (KN w (V170.setRow (g8) (node16 2 1 32 1 (one0 38))) [(g8, (node16 2 1 32 1 (one0 38))), (g10, (node16 2 2 32 1 (one0 38))), (g9, (node16 2 2 32 1 (one0 38))), (gR, (node16 2 2 32 1 (one0 38))), (gH, (node16 1 1 2000 0 nought)), (gD, (node16 1 1 3 2 (one0 39))), (gC, (node16 1 1 3 2 (two0 39 40))), (gB, (node16 1 1 3 1 (one0 0))), (gA, (node16 1 1 3 1 (one0 37)))]) := K169.out.set 0 (node16 2 1 32 1 (one0 38)) rfl rfl
        have K172 : Hid (KN w ((V170.setRow (g8) (node16 2 1 32 1 (one0 38))).setRow (g9) (node16 2 2 33 1 (one0 38))) [(g8, (node16 2 1 32 1 (one0 38))), (g10, (node16 2 2 32 1 (one0 38))), (g9, (node16 2 2 33 1 (one0 38))), (gR, (node16 2 2 32 1 (one0 38))), (gH, (node16 1 1 2000 0 nought)), (gD, (node16 1 1 3 2 (one0 39))), (gC, (node16 1 1 3 2 (two0 39 40))), (gB, (node16 1 1 3 1 (one0 0))), (gA, (node16 1 1 3 1 (one0 37)))]) := K171.out.set 2 (node16 2 2 33 1 (one0 38)) rfl rfl
        have K173 : Hid (KN w (((V170.setRow (g8) (node16 2 1 32 1 (one0 38))).setRow (g9) (node16 2 2 33 1 (one0 38))).setRow (g10) (node16 2 2 32 1 (one0 0))) [(g8, (node16 2 1 32 1 (one0 38))), (g10, (node16 2 2 32 1 (one0 0))), (g9, (node16 2 2 33 1 (one0 38))), (gR, (node16 2 2 32 1 (one0 38))), (gH, (node16 1 1 2000 0 nought)), (gD, (node16 1 1 3 2 (one0 39))), (gC, (node16 1 1 3 2 (two0 39 40))), (gB, (node16 1 1 3 1 (one0 0))), (gA, (node16 1 1 3 1 (one0 37)))]) := K172.out.set 1 (node16 2 2 32 1 (one0 0)) rfl rfl
        have K174 : Hid (KN w ((((V170.setRow (g8) (node16 2 1 32 1 (one0 38))).setRow (g9) (node16 2 2 33 1 (one0 38))).setRow (g10) (node16 2 2 32 1 (one0 0))).setRow (g10) (node16 2 2 32 0 (one0 0))) [(g8, (node16 2 1 32 1 (one0 38))), (g10, (node16 2 2 32 0 (one0 0))), (g9, (node16 2 2 33 1 (one0 38))), (gR, (node16 2 2 32 1 (one0 38))), (gH, (node16 1 1 2000 0 nought)), (gD, (node16 1 1 3 2 (one0 39))), (gC, (node16 1 1 3 2 (two0 39 40))), (gB, (node16 1 1 3 1 (one0 0))), (gA, (node16 1 1 3 1 (one0 37)))]) := K173.out.set 1 (node16 2 2 32 0 (one0 0)) rfl rfl
        go_wp2_with (first | (refine wpList_stK22 rfl _ _ rfl _ 1 (node16 2 2 32 1 (one0 38)) (node16 2 1 32 1 (one0 38)) 27 1 (by decide) rfl rfl rfl (K169.out.at 0 rfl) ?_; clear K169; generalize V170.setRow (g8) (node16 2 1 32 1 (one0 38)) = U1 at *; refine Hid.out ?_))
        unfold Hid
        go_wp2_with (first | (refine wpList_stK24 rfl _ _ rfl _ 2 (node16 2 2 32 1 (one0 38)) (node16 2 2 33 1 (one0 38)) 27 33 (by decide) rfl rfl rfl (K171.out.at 2 rfl) ?_; clear K171; generalize U1.setRow (g9) (node16 2 2 33 1 (one0 38)) = U2 at *; refine Hid.out ?_))
        unfold Hid
        go_wp2_with (first | (refine wpList_stK24 rfl _ _ rfl _ 4 (node16 2 2 32 1 (one0 38)) (node16 2 2 32 1 (one0 0)) 27 0 (by decide) rfl rfl rfl (K172.out.at 1 rfl) ?_; clear K172; generalize U2.setRow (g10) (node16 2 2 32 1 (one0 0)) = U3 at *; refine Hid.out ?_))
        unfold Hid
        go_wp2_with (first | (refine wpList_stK24 rfl _ _ rfl _ 3 (node16 2 2 32 1 (one0 0)) (node16 2 2 32 0 (one0 0)) 27 0 (by decide) rfl rfl rfl (K173.out.at 1 rfl) ?_; clear K173; generalize U3.setRow (g10) (node16 2 2 32 0 (one0 0)) = U4 at *; refine Hid.out ?_))
        unfold Hid
        generalize U4 = VV at *
        go_wp2_with (first | refine wpList_ldR 27 Try.underlying27 rfl rfl _ rfl _ rfl _ 27 (0, 0) (by exact size27) (K174.out.at 4 rfl) ?_ | (go_at_call 22; fail))
        refine (CH.out _).mono ?_
        rintro e' W175 ⟨rfl, hb⟩
        have K176 : Hid _ := K174.out.call hb
        clear hb K174
        go_wp2_with (first | refine wpList_ldR 27 Try.underlying27 rfl rfl _ rfl _ rfl _ 27 (0, 0) (by exact size27) (K176.out.at 3 rfl) ?_ | (go_at_call 22; fail))
        refine (CR.out _).mono ?_
        rintro e' W177 ⟨rfl, hb⟩
        have K178 : Hid _ := K176.out.call hb
        clear hb K176
        go_wp2_with (first | refine wpList_ldR 27 Try.underlying27 rfl rfl _ rfl _ rfl _ 27 (0, 0) (by exact size27) (K178.out.at 0 rfl) ?_ | (go_at_call 22; fail))
        refine (CE.out _).mono ?_
        rintro e' W179 ⟨rfl, hb⟩
        have K180 : Hid _ := K178.out.call hb
        clear hb K178
        go_wp2_with (first | refine wpList_ldR 27 Try.underlying27 rfl rfl _ rfl _ rfl _ 27 (0, 0) (by exact size27) (K180.out.at 2 rfl) ?_ | (go_at_call 22; fail))
        refine (CF.out _).mono ?_
        rintro e' W181 ⟨rfl, hb⟩
        have K182 : Hid _ := K180.out.call hb
        clear hb K180
        go_wp2_with (first | refine wpList_ldR 27 Try.underlying27 rfl rfl _ rfl _ rfl _ 27 (0, 0) (by exact size27) (K182.out.at 1 rfl) ?_ | (go_at_call 22; fail))
        refine (CG.out _).mono ?_
        rintro e' W183 ⟨rfl, hb⟩
        have K184 : Hid _ := K182.out.call hb
        clear hb K182
        have K185 : Hid _ := K184.out.alloc (node16 1 0 20000 1 (ten0 50))
        clear K184
        go_wp2_with (first | (refine wpList_stNew 27 rfl _ _ rfl _ (node16 1 0 20000 1 (ten0 50)) _ 27 (by exact size27) (by rfl) (node_one _ _ _ _ _) rfl rfl rfl ?_; refine Hid.out ?_))
        unfold Hid
        generalize W183.alloc (.cells (node16 1 0 20000 1 (ten0 50)) 27) = V186 at *
        generalize W183.heap.size = gL at *
        have K187 : Hid _ := K185.out.alloc (node16 1 0 20000 1 (ten0 50))
        go_wp2_with (first | refine wpList_ldR 27 Try.underlying27 rfl rfl _ rfl _ rfl _ 27 (0, 0) (by exact size27) (K185.out.at 0 rfl) ?_ | refine wpList_ldR 27 Try.underlying27 rfl rfl _ rfl _ rfl _ 27 (0, 0) (by exact size27) ((K185.out.alloc (node16 0 0 0 0 nought)).at 1 rfl) ?_ | (refine wpList_stNew 27 rfl _ _ rfl _ (node16 1 0 20000 1 (ten0 50)) _ 27 (by exact size27) (by rfl) (node_one _ _ _ _ _) rfl rfl rfl ?_; refine Hid.out ?_))
        unfold Hid
        clear K185
        generalize V186.alloc (.cells (node16 1 0 20000 1 (ten0 50)) 27) = VM at *
        generalize V186.heap.size = gM at *
        have K188 : Hid (KN w (VM.setRow (gM) (node16 1 0 20000 2 (ten0 50))) [(gM, (node16 1 0 20000 2 (ten0 50))), (gL, (node16 1 0 20000 1 (ten0 50))), (g8, (node16 2 1 32 1 (one0 38))), (g10, (node16 2 2 32 0 (one0 0))), (g9, (node16 2 2 33 1 (one0 38))), (gR, (node16 2 2 32 1 (one0 38))), (gH, (node16 1 1 2000 0 nought)), (gD, (node16 1 1 3 2 (one0 39))), (gC, (node16 1 1 3 2 (two0 39 40))), (gB, (node16 1 1 3 1 (one0 0))), (gA, (node16 1 1 3 1 (one0 37)))]) := K187.out.set 0 (node16 1 0 20000 2 (ten0 50)) rfl rfl
        go_wp2_with (first | (refine wpList_stK24 rfl _ _ rfl _ 3 (node16 1 0 20000 1 (ten0 50)) (node16 1 0 20000 2 (ten0 50)) 27 2 (by decide) rfl rfl rfl (K187.out.at 0 rfl) ?_; clear K187; generalize VM.setRow (gM) (node16 1 0 20000 2 (ten0 50)) = U1 at *; refine Hid.out ?_))
        unfold Hid
        generalize U1 = VN at *
        go_wp2_with (first | refine wpList_ldR 27 Try.underlying27 rfl rfl _ rfl _ rfl _ 27 (0, 0) (by exact size27) (K188.out.at 1 rfl) ?_ | (go_at_call 22; fail))
        refine (CL.out _).mono ?_
        rintro e' W189 ⟨rfl, hb⟩
        have K190 : Hid _ := K188.out.call hb
        clear hb K188
        go_wp2_with (first | refine wpList_ldR 27 Try.underlying27 rfl rfl _ rfl _ rfl _ 27 (0, 0) (by exact size27) (K190.out.at 0 rfl) ?_ | (go_at_call 22; fail))
        refine (CM.out _).mono ?_
        rintro e' W191 ⟨rfl, hb⟩
        have K192 : Hid _ := K190.out.call hb
        clear hb K190
        go_wp2_with (first | (go_at_call 22; fail))
        refine (CK.out _).mono ?_
        rintro e' W193 ⟨rfl, hb⟩
        have K194 : Hid _ := K192.out.call hb
        clear hb K192
        go_wp2_with (first | (go_at_call 22; fail))
        refine (CZ.out _).mono ?_
        rintro e' W195 ⟨rfl, hb⟩
        have K196 : Hid _ := K194.out.call hb
        clear hb K194
        go_wp2_with (first | (go_at_call 22; fail))
        refine (CT.out _).mono ?_
        rintro e' W197 ⟨rfl, hb⟩
        have K198 : Hid _ := K196.out.call hb
        clear hb K196
        go_wp2_with (first | (go_at_call 18; fail))
        refine (CW.out _).mono ?_
        rintro e' W199 ⟨rfl, hb⟩
        have K200 : Hid _ := K198.out.call hb
        clear hb K198
        go_wp2_with (first | (go_at_call 16; fail))
        refine (CX.out _).mono ?_
        rintro e' W201 ⟨rfl, hb⟩
        have K202 : Hid _ := K200.out.call hb
        clear hb K200
        go_wp2
        go_ret
        exact ⟨rfl, K202.out.bel⟩
    · skip
      refine wpT_make (v := .pointer (some ⟨VD.heap.size, 0, none⟩)) (w' := VD.alloc (.cells (node16 0 0 0 0 nought) 27)) rfl rfl (run_alloc27 _ rfl) (KD.out.alloc (node16 0 0 0 0 nought) |>.at 1 rfl) ?_ wpT_stop
      have K203 : Hid _ := KD.out.alloc (node16 0 0 0 0 nought)
      clear KD
      simp only [Act.put, List.setIfInBounds_toArray, List.set_cons_succ, List.set_cons_zero]
      generalize VD.heap.size = g10 at *
      generalize VD.alloc (.cells (node16 0 0 0 0 nought) 27) = V204 at *
      refine wpT_make (v := .pointer (some ⟨V204.heap.size, 0, none⟩)) (w' := V204.alloc (.cells (node16 0 0 0 0 nought) 27)) rfl rfl (run_alloc27 _ rfl) (K203.out.alloc (node16 0 0 0 0 nought) |>.at 2 rfl) ?_ ?_
      · skip
        have K205 : Hid _ := K203.out.alloc (node16 0 0 0 0 nought)
        clear K203
        simp only [Act.put, List.setIfInBounds_toArray, List.set_cons_succ, List.set_cons_zero]
        generalize V204.heap.size = g8 at *
        generalize V204.alloc (.cells (node16 0 0 0 0 nought) 27) = V206 at *
        refine wpT_make (v := .pointer (some ⟨V206.heap.size, 0, none⟩)) (w' := V206.alloc (.cells (node16 0 0 0 0 nought) 27)) rfl rfl (run_alloc27 _ rfl) (K205.out.alloc (node16 0 0 0 0 nought) |>.at 3 rfl) ?_ wpT_stop
        have K207 : Hid _ := K205.out.alloc (node16 0 0 0 0 nought)
        clear K205
        simp only [Act.put, List.setIfInBounds_toArray, List.set_cons_succ, List.set_cons_zero]
        generalize V206.heap.size = g9 at *
        generalize V206.alloc (.cells (node16 0 0 0 0 nought) 27) = V208 at *
        have K209 : Hid (KN w (V208.setRow g8 (node16 2 2 32 1 (one0 38))) [(g9, (node16 0 0 0 0 nought)), (g8, (node16 2 2 32 1 (one0 38))), (g10, (node16 0 0 0 0 nought)), (gR, (node16 2 2 32 1 (one0 38))), (gH, (node16 1 1 2000 0 nought)), (gD, (node16 1 1 3 2 (one0 39))), (gC, (node16 1 1 3 2 (two0 39 40))), (gB, (node16 1 1 3 1 (one0 0))), (gA, (node16 1 1 3 1 (one0 37)))]) := K207.out.set 1 (node16 2 2 32 1 (one0 38)) rfl rfl
        refine wpT_do (w' := V208.setRow g8 (node16 2 2 32 1 (one0 38))) rfl rfl (run_st27 _ g8 (K207.out.at 1 rfl) _ _ rfl rfl rfl rfl (node_one _ _ _ _ _) rfl) (K209.out.at 3 rfl) ?_ wpT_stop
        simp only [Act.put]
        clear K207
        generalize V208.setRow g8 (node16 2 2 32 1 (one0 38)) = V210 at *
        have K211 : Hid (KN w (V210.setRow g9 (node16 2 2 32 1 (one0 38))) [(g9, (node16 2 2 32 1 (one0 38))), (g8, (node16 2 2 32 1 (one0 38))), (g10, (node16 0 0 0 0 nought)), (gR, (node16 2 2 32 1 (one0 38))), (gH, (node16 1 1 2000 0 nought)), (gD, (node16 1 1 3 2 (one0 39))), (gC, (node16 1 1 3 2 (two0 39 40))), (gB, (node16 1 1 3 1 (one0 0))), (gA, (node16 1 1 3 1 (one0 37)))]) := K209.out.set 0 (node16 2 2 32 1 (one0 38)) rfl rfl
        refine wpT_do (w' := V210.setRow g9 (node16 2 2 32 1 (one0 38))) rfl rfl (run_st27 _ g9 (K209.out.at 0 rfl) _ _ rfl rfl rfl rfl (node_one _ _ _ _ _) rfl) (K211.out.at 3 rfl) ?_ wpT_stop
        simp only [Act.put]
        clear K209
        generalize V210.setRow g9 (node16 2 2 32 1 (one0 38)) = V212 at *
        have K213 : Hid (KN w (V212.setRow g10 (node16 2 2 32 1 (one0 38))) [(g9, (node16 2 2 32 1 (one0 38))), (g8, (node16 2 2 32 1 (one0 38))), (g10, (node16 2 2 32 1 (one0 38))), (gR, (node16 2 2 32 1 (one0 38))), (gH, (node16 1 1 2000 0 nought)), (gD, (node16 1 1 3 2 (one0 39))), (gC, (node16 1 1 3 2 (two0 39 40))), (gB, (node16 1 1 3 1 (one0 0))), (gA, (node16 1 1 3 1 (one0 37)))]) := K211.out.set 2 (node16 2 2 32 1 (one0 38)) rfl rfl
        refine wpT_do (w' := V212.setRow g10 (node16 2 2 32 1 (one0 38))) rfl rfl (run_st27 _ g10 (K211.out.at 2 rfl) _ _ rfl rfl rfl rfl (node_one _ _ _ _ _) rfl) (K213.out.at 3 rfl) ?_ wpT_stop
        simp only [Act.put]
        clear K211
        generalize V212.setRow g10 (node16 2 2 32 1 (one0 38)) = V214 at *
        refine wpT_fin ?_
        have K215 : Hid (KN w (V214.setRow (g8) (node16 2 1 32 1 (one0 38))) [(g9, (node16 2 2 32 1 (one0 38))), (g8, (node16 2 1 32 1 (one0 38))), (g10, (node16 2 2 32 1 (one0 38))), (gR, (node16 2 2 32 1 (one0 38))), (gH, (node16 1 1 2000 0 nought)), (gD, (node16 1 1 3 2 (one0 39))), (gC, (node16 1 1 3 2 (two0 39 40))), (gB, (node16 1 1 3 1 (one0 0))), (gA, (node16 1 1 3 1 (one0 37)))]) := K213.out.set 1 (node16 2 1 32 1 (one0 38)) rfl rfl
        have K216 : Hid (KN w ((V214.setRow (g8) (node16 2 1 32 1 (one0 38))).setRow (g9) (node16 2 2 33 1 (one0 38))) [(g9, (node16 2 2 33 1 (one0 38))), (g8, (node16 2 1 32 1 (one0 38))), (g10, (node16 2 2 32 1 (one0 38))), (gR, (node16 2 2 32 1 (one0 38))), (gH, (node16 1 1 2000 0 nought)), (gD, (node16 1 1 3 2 (one0 39))), (gC, (node16 1 1 3 2 (two0 39 40))), (gB, (node16 1 1 3 1 (one0 0))), (gA, (node16 1 1 3 1 (one0 37)))]) := K215.out.set 0 (node16 2 2 33 1 (one0 38)) rfl rfl
        have K217 : Hid (KN w (((V214.setRow (g8) (node16 2 1 32 1 (one0 38))).setRow (g9) (node16 2 2 33 1 (one0 38))).setRow (g10) (node16 2 2 32 1 (one0 0))) [(g9, (node16 2 2 33 1 (one0 38))), (g8, (node16 2 1 32 1 (one0 38))), (g10, (node16 2 2 32 1 (one0 0))), (gR, (node16 2 2 32 1 (one0 38))), (gH, (node16 1 1 2000 0 nought)), (gD, (node16 1 1 3 2 (one0 39))), (gC, (node16 1 1 3 2 (two0 39 40))), (gB, (node16 1 1 3 1 (one0 0))), (gA, (node16 1 1 3 1 (one0 37)))]) := K216.out.set 2 (node16 2 2 32 1 (one0 0)) rfl rfl
        have K218 : Hid (KN w ((((V214.setRow (g8) (node16 2 1 32 1 (one0 38))).setRow (g9) (node16 2 2 33 1 (one0 38))).setRow (g10) (node16 2 2 32 1 (one0 0))).setRow (g10) (node16 2 2 32 0 (one0 0))) [(g9, (node16 2 2 33 1 (one0 38))), (g8, (node16 2 1 32 1 (one0 38))), (g10, (node16 2 2 32 0 (one0 0))), (gR, (node16 2 2 32 1 (one0 38))), (gH, (node16 1 1 2000 0 nought)), (gD, (node16 1 1 3 2 (one0 39))), (gC, (node16 1 1 3 2 (two0 39 40))), (gB, (node16 1 1 3 1 (one0 0))), (gA, (node16 1 1 3 1 (one0 37)))]) := K217.out.set 2 (node16 2 2 32 0 (one0 0)) rfl rfl
        go_wp2_with (first | (refine wpList_stK22 rfl _ _ rfl _ 1 (node16 2 2 32 1 (one0 38)) (node16 2 1 32 1 (one0 38)) 27 1 (by decide) rfl rfl rfl (K213.out.at 1 rfl) ?_; clear K213; generalize V214.setRow (g8) (node16 2 1 32 1 (one0 38)) = U1 at *; refine Hid.out ?_))
        unfold Hid
        go_wp2_with (first | (refine wpList_stK24 rfl _ _ rfl _ 2 (node16 2 2 32 1 (one0 38)) (node16 2 2 33 1 (one0 38)) 27 33 (by decide) rfl rfl rfl (K215.out.at 0 rfl) ?_; clear K215; generalize U1.setRow (g9) (node16 2 2 33 1 (one0 38)) = U2 at *; refine Hid.out ?_))
        unfold Hid
        go_wp2_with (first | (refine wpList_stK24 rfl _ _ rfl _ 4 (node16 2 2 32 1 (one0 38)) (node16 2 2 32 1 (one0 0)) 27 0 (by decide) rfl rfl rfl (K216.out.at 2 rfl) ?_; clear K216; generalize U2.setRow (g10) (node16 2 2 32 1 (one0 0)) = U3 at *; refine Hid.out ?_))
        unfold Hid
        go_wp2_with (first | (refine wpList_stK24 rfl _ _ rfl _ 3 (node16 2 2 32 1 (one0 0)) (node16 2 2 32 0 (one0 0)) 27 0 (by decide) rfl rfl rfl (K217.out.at 2 rfl) ?_; clear K217; generalize U3.setRow (g10) (node16 2 2 32 0 (one0 0)) = U4 at *; refine Hid.out ?_))
        unfold Hid
        generalize U4 = VV at *
        go_wp2_with (first | refine wpList_ldR 27 Try.underlying27 rfl rfl _ rfl _ rfl _ 27 (0, 0) (by exact size27) (K218.out.at 4 rfl) ?_ | (go_at_call 22; fail))
        refine (CH.out _).mono ?_
        rintro e' W219 ⟨rfl, hb⟩
        have K220 : Hid _ := K218.out.call hb
        clear hb K218
        go_wp2_with (first | refine wpList_ldR 27 Try.underlying27 rfl rfl _ rfl _ rfl _ 27 (0, 0) (by exact size27) (K220.out.at 3 rfl) ?_ | (go_at_call 22; fail))
        refine (CR.out _).mono ?_
        rintro e' W221 ⟨rfl, hb⟩
        have K222 : Hid _ := K220.out.call hb
        clear hb K220
        go_wp2_with (first | refine wpList_ldR 27 Try.underlying27 rfl rfl _ rfl _ rfl _ 27 (0, 0) (by exact size27) (K222.out.at 1 rfl) ?_ | (go_at_call 22; fail))
        refine (CE.out _).mono ?_
        rintro e' W223 ⟨rfl, hb⟩
        have K224 : Hid _ := K222.out.call hb
        clear hb K222
        go_wp2_with (first | refine wpList_ldR 27 Try.underlying27 rfl rfl _ rfl _ rfl _ 27 (0, 0) (by exact size27) (K224.out.at 0 rfl) ?_ | (go_at_call 22; fail))
        refine (CF.out _).mono ?_
        rintro e' W225 ⟨rfl, hb⟩
        have K226 : Hid _ := K224.out.call hb
        clear hb K224
        go_wp2_with (first | refine wpList_ldR 27 Try.underlying27 rfl rfl _ rfl _ rfl _ 27 (0, 0) (by exact size27) (K226.out.at 2 rfl) ?_ | (go_at_call 22; fail))
        refine (CG.out _).mono ?_
        rintro e' W227 ⟨rfl, hb⟩
        have K228 : Hid _ := K226.out.call hb
        clear hb K226
        have K229 : Hid _ := K228.out.alloc (node16 1 0 20000 1 (ten0 50))
        clear K228
        go_wp2_with (first | (refine wpList_stNew 27 rfl _ _ rfl _ (node16 1 0 20000 1 (ten0 50)) _ 27 (by exact size27) (by rfl) (node_one _ _ _ _ _) rfl rfl rfl ?_; refine Hid.out ?_))
        unfold Hid
        generalize W227.alloc (.cells (node16 1 0 20000 1 (ten0 50)) 27) = V230 at *
        generalize W227.heap.size = gL at *
        have K231 : Hid _ := K229.out.alloc (node16 1 0 20000 1 (ten0 50))
        go_wp2_with (first | refine wpList_ldR 27 Try.underlying27 rfl rfl _ rfl _ rfl _ 27 (0, 0) (by exact size27) (K229.out.at 0 rfl) ?_ | refine wpList_ldR 27 Try.underlying27 rfl rfl _ rfl _ rfl _ 27 (0, 0) (by exact size27) ((K229.out.alloc (node16 0 0 0 0 nought)).at 1 rfl) ?_ | (refine wpList_stNew 27 rfl _ _ rfl _ (node16 1 0 20000 1 (ten0 50)) _ 27 (by exact size27) (by rfl) (node_one _ _ _ _ _) rfl rfl rfl ?_; refine Hid.out ?_))
        unfold Hid
        clear K229
        generalize V230.alloc (.cells (node16 1 0 20000 1 (ten0 50)) 27) = VM at *
        generalize V230.heap.size = gM at *
        have K232 : Hid (KN w (VM.setRow (gM) (node16 1 0 20000 2 (ten0 50))) [(gM, (node16 1 0 20000 2 (ten0 50))), (gL, (node16 1 0 20000 1 (ten0 50))), (g9, (node16 2 2 33 1 (one0 38))), (g8, (node16 2 1 32 1 (one0 38))), (g10, (node16 2 2 32 0 (one0 0))), (gR, (node16 2 2 32 1 (one0 38))), (gH, (node16 1 1 2000 0 nought)), (gD, (node16 1 1 3 2 (one0 39))), (gC, (node16 1 1 3 2 (two0 39 40))), (gB, (node16 1 1 3 1 (one0 0))), (gA, (node16 1 1 3 1 (one0 37)))]) := K231.out.set 0 (node16 1 0 20000 2 (ten0 50)) rfl rfl
        go_wp2_with (first | (refine wpList_stK24 rfl _ _ rfl _ 3 (node16 1 0 20000 1 (ten0 50)) (node16 1 0 20000 2 (ten0 50)) 27 2 (by decide) rfl rfl rfl (K231.out.at 0 rfl) ?_; clear K231; generalize VM.setRow (gM) (node16 1 0 20000 2 (ten0 50)) = U1 at *; refine Hid.out ?_))
        unfold Hid
        generalize U1 = VN at *
        go_wp2_with (first | refine wpList_ldR 27 Try.underlying27 rfl rfl _ rfl _ rfl _ 27 (0, 0) (by exact size27) (K232.out.at 1 rfl) ?_ | (go_at_call 22; fail))
        refine (CL.out _).mono ?_
        rintro e' W233 ⟨rfl, hb⟩
        have K234 : Hid _ := K232.out.call hb
        clear hb K232
        go_wp2_with (first | refine wpList_ldR 27 Try.underlying27 rfl rfl _ rfl _ rfl _ 27 (0, 0) (by exact size27) (K234.out.at 0 rfl) ?_ | (go_at_call 22; fail))
        refine (CM.out _).mono ?_
        rintro e' W235 ⟨rfl, hb⟩
        have K236 : Hid _ := K234.out.call hb
        clear hb K234
        go_wp2_with (first | (go_at_call 22; fail))
        refine (CK.out _).mono ?_
        rintro e' W237 ⟨rfl, hb⟩
        have K238 : Hid _ := K236.out.call hb
        clear hb K236
        go_wp2_with (first | (go_at_call 22; fail))
        refine (CZ.out _).mono ?_
        rintro e' W239 ⟨rfl, hb⟩
        have K240 : Hid _ := K238.out.call hb
        clear hb K238
        go_wp2_with (first | (go_at_call 22; fail))
        refine (CT.out _).mono ?_
        rintro e' W241 ⟨rfl, hb⟩
        have K242 : Hid _ := K240.out.call hb
        clear hb K240
        go_wp2_with (first | (go_at_call 18; fail))
        refine (CW.out _).mono ?_
        rintro e' W243 ⟨rfl, hb⟩
        have K244 : Hid _ := K242.out.call hb
        clear hb K242
        go_wp2_with (first | (go_at_call 16; fail))
        refine (CX.out _).mono ?_
        rintro e' W245 ⟨rfl, hb⟩
        have K246 : Hid _ := K244.out.call hb
        clear hb K244
        go_wp2
        go_ret
        exact ⟨rfl, K246.out.bel⟩
      · skip
        refine wpT_make (v := .pointer (some ⟨V204.heap.size, 0, none⟩)) (w' := V204.alloc (.cells (node16 0 0 0 0 nought) 27)) rfl rfl (run_alloc27 _ rfl) (K203.out.alloc (node16 0 0 0 0 nought) |>.at 2 rfl) ?_ wpT_stop
        have K247 : Hid _ := K203.out.alloc (node16 0 0 0 0 nought)
        clear K203
        simp only [Act.put, List.setIfInBounds_toArray, List.set_cons_succ, List.set_cons_zero]
        generalize V204.heap.size = g9 at *
        generalize V204.alloc (.cells (node16 0 0 0 0 nought) 27) = V248 at *
        refine wpT_make (v := .pointer (some ⟨V248.heap.size, 0, none⟩)) (w' := V248.alloc (.cells (node16 0 0 0 0 nought) 27)) rfl rfl (run_alloc27 _ rfl) (K247.out.alloc (node16 0 0 0 0 nought) |>.at 3 rfl) ?_ wpT_stop
        have K249 : Hid _ := K247.out.alloc (node16 0 0 0 0 nought)
        clear K247
        simp only [Act.put, List.setIfInBounds_toArray, List.set_cons_succ, List.set_cons_zero]
        generalize V248.heap.size = g8 at *
        generalize V248.alloc (.cells (node16 0 0 0 0 nought) 27) = V250 at *
        have K251 : Hid (KN w (V250.setRow g8 (node16 2 2 32 1 (one0 38))) [(g8, (node16 2 2 32 1 (one0 38))), (g9, (node16 0 0 0 0 nought)), (g10, (node16 0 0 0 0 nought)), (gR, (node16 2 2 32 1 (one0 38))), (gH, (node16 1 1 2000 0 nought)), (gD, (node16 1 1 3 2 (one0 39))), (gC, (node16 1 1 3 2 (two0 39 40))), (gB, (node16 1 1 3 1 (one0 0))), (gA, (node16 1 1 3 1 (one0 37)))]) := K249.out.set 0 (node16 2 2 32 1 (one0 38)) rfl rfl
        refine wpT_do (w' := V250.setRow g8 (node16 2 2 32 1 (one0 38))) rfl rfl (run_st27 _ g8 (K249.out.at 0 rfl) _ _ rfl rfl rfl rfl (node_one _ _ _ _ _) rfl) (K251.out.at 3 rfl) ?_ wpT_stop
        simp only [Act.put]
        clear K249
        generalize V250.setRow g8 (node16 2 2 32 1 (one0 38)) = V252 at *
        have K253 : Hid (KN w (V252.setRow g9 (node16 2 2 32 1 (one0 38))) [(g8, (node16 2 2 32 1 (one0 38))), (g9, (node16 2 2 32 1 (one0 38))), (g10, (node16 0 0 0 0 nought)), (gR, (node16 2 2 32 1 (one0 38))), (gH, (node16 1 1 2000 0 nought)), (gD, (node16 1 1 3 2 (one0 39))), (gC, (node16 1 1 3 2 (two0 39 40))), (gB, (node16 1 1 3 1 (one0 0))), (gA, (node16 1 1 3 1 (one0 37)))]) := K251.out.set 1 (node16 2 2 32 1 (one0 38)) rfl rfl
        refine wpT_do (w' := V252.setRow g9 (node16 2 2 32 1 (one0 38))) rfl rfl (run_st27 _ g9 (K251.out.at 1 rfl) _ _ rfl rfl rfl rfl (node_one _ _ _ _ _) rfl) (K253.out.at 3 rfl) ?_ wpT_stop
        simp only [Act.put]
        clear K251
        generalize V252.setRow g9 (node16 2 2 32 1 (one0 38)) = V254 at *
        have K255 : Hid (KN w (V254.setRow g10 (node16 2 2 32 1 (one0 38))) [(g8, (node16 2 2 32 1 (one0 38))), (g9, (node16 2 2 32 1 (one0 38))), (g10, (node16 2 2 32 1 (one0 38))), (gR, (node16 2 2 32 1 (one0 38))), (gH, (node16 1 1 2000 0 nought)), (gD, (node16 1 1 3 2 (one0 39))), (gC, (node16 1 1 3 2 (two0 39 40))), (gB, (node16 1 1 3 1 (one0 0))), (gA, (node16 1 1 3 1 (one0 37)))]) := K253.out.set 2 (node16 2 2 32 1 (one0 38)) rfl rfl
        refine wpT_do (w' := V254.setRow g10 (node16 2 2 32 1 (one0 38))) rfl rfl (run_st27 _ g10 (K253.out.at 2 rfl) _ _ rfl rfl rfl rfl (node_one _ _ _ _ _) rfl) (K255.out.at 3 rfl) ?_ wpT_stop
        simp only [Act.put]
        clear K253
        generalize V254.setRow g10 (node16 2 2 32 1 (one0 38)) = V256 at *
        refine wpT_fin ?_
        have K257 : Hid (KN w (V256.setRow (g8) (node16 2 1 32 1 (one0 38))) [(g8, (node16 2 1 32 1 (one0 38))), (g9, (node16 2 2 32 1 (one0 38))), (g10, (node16 2 2 32 1 (one0 38))), (gR, (node16 2 2 32 1 (one0 38))), (gH, (node16 1 1 2000 0 nought)), (gD, (node16 1 1 3 2 (one0 39))), (gC, (node16 1 1 3 2 (two0 39 40))), (gB, (node16 1 1 3 1 (one0 0))), (gA, (node16 1 1 3 1 (one0 37)))]) := K255.out.set 0 (node16 2 1 32 1 (one0 38)) rfl rfl
        have K258 : Hid (KN w ((V256.setRow (g8) (node16 2 1 32 1 (one0 38))).setRow (g9) (node16 2 2 33 1 (one0 38))) [(g8, (node16 2 1 32 1 (one0 38))), (g9, (node16 2 2 33 1 (one0 38))), (g10, (node16 2 2 32 1 (one0 38))), (gR, (node16 2 2 32 1 (one0 38))), (gH, (node16 1 1 2000 0 nought)), (gD, (node16 1 1 3 2 (one0 39))), (gC, (node16 1 1 3 2 (two0 39 40))), (gB, (node16 1 1 3 1 (one0 0))), (gA, (node16 1 1 3 1 (one0 37)))]) := K257.out.set 1 (node16 2 2 33 1 (one0 38)) rfl rfl
        have K259 : Hid (KN w (((V256.setRow (g8) (node16 2 1 32 1 (one0 38))).setRow (g9) (node16 2 2 33 1 (one0 38))).setRow (g10) (node16 2 2 32 1 (one0 0))) [(g8, (node16 2 1 32 1 (one0 38))), (g9, (node16 2 2 33 1 (one0 38))), (g10, (node16 2 2 32 1 (one0 0))), (gR, (node16 2 2 32 1 (one0 38))), (gH, (node16 1 1 2000 0 nought)), (gD, (node16 1 1 3 2 (one0 39))), (gC, (node16 1 1 3 2 (two0 39 40))), (gB, (node16 1 1 3 1 (one0 0))), (gA, (node16 1 1 3 1 (one0 37)))]) := K258.out.set 2 (node16 2 2 32 1 (one0 0)) rfl rfl
        have K260 : Hid (KN w ((((V256.setRow (g8) (node16 2 1 32 1 (one0 38))).setRow (g9) (node16 2 2 33 1 (one0 38))).setRow (g10) (node16 2 2 32 1 (one0 0))).setRow (g10) (node16 2 2 32 0 (one0 0))) [(g8, (node16 2 1 32 1 (one0 38))), (g9, (node16 2 2 33 1 (one0 38))), (g10, (node16 2 2 32 0 (one0 0))), (gR, (node16 2 2 32 1 (one0 38))), (gH, (node16 1 1 2000 0 nought)), (gD, (node16 1 1 3 2 (one0 39))), (gC, (node16 1 1 3 2 (two0 39 40))), (gB, (node16 1 1 3 1 (one0 0))), (gA, (node16 1 1 3 1 (one0 37)))]) := K259.out.set 2 (node16 2 2 32 0 (one0 0)) rfl rfl
        go_wp2_with (first | (refine wpList_stK22 rfl _ _ rfl _ 1 (node16 2 2 32 1 (one0 38)) (node16 2 1 32 1 (one0 38)) 27 1 (by decide) rfl rfl rfl (K255.out.at 0 rfl) ?_; clear K255; generalize V256.setRow (g8) (node16 2 1 32 1 (one0 38)) = U1 at *; refine Hid.out ?_))
        unfold Hid
        go_wp2_with (first | (refine wpList_stK24 rfl _ _ rfl _ 2 (node16 2 2 32 1 (one0 38)) (node16 2 2 33 1 (one0 38)) 27 33 (by decide) rfl rfl rfl (K257.out.at 1 rfl) ?_; clear K257; generalize U1.setRow (g9) (node16 2 2 33 1 (one0 38)) = U2 at *; refine Hid.out ?_))
        unfold Hid
        go_wp2_with (first | (refine wpList_stK24 rfl _ _ rfl _ 4 (node16 2 2 32 1 (one0 38)) (node16 2 2 32 1 (one0 0)) 27 0 (by decide) rfl rfl rfl (K258.out.at 2 rfl) ?_; clear K258; generalize U2.setRow (g10) (node16 2 2 32 1 (one0 0)) = U3 at *; refine Hid.out ?_))
        unfold Hid
        go_wp2_with (first | (refine wpList_stK24 rfl _ _ rfl _ 3 (node16 2 2 32 1 (one0 0)) (node16 2 2 32 0 (one0 0)) 27 0 (by decide) rfl rfl rfl (K259.out.at 2 rfl) ?_; clear K259; generalize U3.setRow (g10) (node16 2 2 32 0 (one0 0)) = U4 at *; refine Hid.out ?_))
        unfold Hid
        generalize U4 = VV at *
        go_wp2_with (first | refine wpList_ldR 27 Try.underlying27 rfl rfl _ rfl _ rfl _ 27 (0, 0) (by exact size27) (K260.out.at 4 rfl) ?_ | (go_at_call 22; fail))
        refine (CH.out _).mono ?_
        rintro e' W261 ⟨rfl, hb⟩
        have K262 : Hid _ := K260.out.call hb
        clear hb K260
        go_wp2_with (first | refine wpList_ldR 27 Try.underlying27 rfl rfl _ rfl _ rfl _ 27 (0, 0) (by exact size27) (K262.out.at 3 rfl) ?_ | (go_at_call 22; fail))
        refine (CR.out _).mono ?_
        rintro e' W263 ⟨rfl, hb⟩
        have K264 : Hid _ := K262.out.call hb
        clear hb K262
        go_wp2_with (first | refine wpList_ldR 27 Try.underlying27 rfl rfl _ rfl _ rfl _ 27 (0, 0) (by exact size27) (K264.out.at 0 rfl) ?_ | (go_at_call 22; fail))
        refine (CE.out _).mono ?_
        rintro e' W265 ⟨rfl, hb⟩
        have K266 : Hid _ := K264.out.call hb
        clear hb K264
        go_wp2_with (first | refine wpList_ldR 27 Try.underlying27 rfl rfl _ rfl _ rfl _ 27 (0, 0) (by exact size27) (K266.out.at 1 rfl) ?_ | (go_at_call 22; fail))
        refine (CF.out _).mono ?_
        rintro e' W267 ⟨rfl, hb⟩
        have K268 : Hid _ := K266.out.call hb
        clear hb K266
        go_wp2_with (first | refine wpList_ldR 27 Try.underlying27 rfl rfl _ rfl _ rfl _ 27 (0, 0) (by exact size27) (K268.out.at 2 rfl) ?_ | (go_at_call 22; fail))
        refine (CG.out _).mono ?_
        rintro e' W269 ⟨rfl, hb⟩
        have K270 : Hid _ := K268.out.call hb
        clear hb K268
        have K271 : Hid _ := K270.out.alloc (node16 1 0 20000 1 (ten0 50))
        clear K270
        go_wp2_with (first | (refine wpList_stNew 27 rfl _ _ rfl _ (node16 1 0 20000 1 (ten0 50)) _ 27 (by exact size27) (by rfl) (node_one _ _ _ _ _) rfl rfl rfl ?_; refine Hid.out ?_))
        unfold Hid
        generalize W269.alloc (.cells (node16 1 0 20000 1 (ten0 50)) 27) = V272 at *
        generalize W269.heap.size = gL at *
        have K273 : Hid _ := K271.out.alloc (node16 1 0 20000 1 (ten0 50))
        go_wp2_with (first | refine wpList_ldR 27 Try.underlying27 rfl rfl _ rfl _ rfl _ 27 (0, 0) (by exact size27) (K271.out.at 0 rfl) ?_ | refine wpList_ldR 27 Try.underlying27 rfl rfl _ rfl _ rfl _ 27 (0, 0) (by exact size27) ((K271.out.alloc (node16 0 0 0 0 nought)).at 1 rfl) ?_ | (refine wpList_stNew 27 rfl _ _ rfl _ (node16 1 0 20000 1 (ten0 50)) _ 27 (by exact size27) (by rfl) (node_one _ _ _ _ _) rfl rfl rfl ?_; refine Hid.out ?_))
        unfold Hid
        clear K271
        generalize V272.alloc (.cells (node16 1 0 20000 1 (ten0 50)) 27) = VM at *
        generalize V272.heap.size = gM at *
        have K274 : Hid (KN w (VM.setRow (gM) (node16 1 0 20000 2 (ten0 50))) [(gM, (node16 1 0 20000 2 (ten0 50))), (gL, (node16 1 0 20000 1 (ten0 50))), (g8, (node16 2 1 32 1 (one0 38))), (g9, (node16 2 2 33 1 (one0 38))), (g10, (node16 2 2 32 0 (one0 0))), (gR, (node16 2 2 32 1 (one0 38))), (gH, (node16 1 1 2000 0 nought)), (gD, (node16 1 1 3 2 (one0 39))), (gC, (node16 1 1 3 2 (two0 39 40))), (gB, (node16 1 1 3 1 (one0 0))), (gA, (node16 1 1 3 1 (one0 37)))]) := K273.out.set 0 (node16 1 0 20000 2 (ten0 50)) rfl rfl
        go_wp2_with (first | (refine wpList_stK24 rfl _ _ rfl _ 3 (node16 1 0 20000 1 (ten0 50)) (node16 1 0 20000 2 (ten0 50)) 27 2 (by decide) rfl rfl rfl (K273.out.at 0 rfl) ?_; clear K273; generalize VM.setRow (gM) (node16 1 0 20000 2 (ten0 50)) = U1 at *; refine Hid.out ?_))
        unfold Hid
        generalize U1 = VN at *
        go_wp2_with (first | refine wpList_ldR 27 Try.underlying27 rfl rfl _ rfl _ rfl _ 27 (0, 0) (by exact size27) (K274.out.at 1 rfl) ?_ | (go_at_call 22; fail))
        refine (CL.out _).mono ?_
        rintro e' W275 ⟨rfl, hb⟩
        have K276 : Hid _ := K274.out.call hb
        clear hb K274
        go_wp2_with (first | refine wpList_ldR 27 Try.underlying27 rfl rfl _ rfl _ rfl _ 27 (0, 0) (by exact size27) (K276.out.at 0 rfl) ?_ | (go_at_call 22; fail))
        refine (CM.out _).mono ?_
        rintro e' W277 ⟨rfl, hb⟩
        have K278 : Hid _ := K276.out.call hb
        clear hb K276
        go_wp2_with (first | (go_at_call 22; fail))
        refine (CK.out _).mono ?_
        rintro e' W279 ⟨rfl, hb⟩
        have K280 : Hid _ := K278.out.call hb
        clear hb K278
        go_wp2_with (first | (go_at_call 22; fail))
        refine (CZ.out _).mono ?_
        rintro e' W281 ⟨rfl, hb⟩
        have K282 : Hid _ := K280.out.call hb
        clear hb K280
        go_wp2_with (first | (go_at_call 22; fail))
        refine (CT.out _).mono ?_
        rintro e' W283 ⟨rfl, hb⟩
        have K284 : Hid _ := K282.out.call hb
        clear hb K282
        go_wp2_with (first | (go_at_call 18; fail))
        refine (CW.out _).mono ?_
        rintro e' W285 ⟨rfl, hb⟩
        have K286 : Hid _ := K284.out.call hb
        clear hb K284
        go_wp2_with (first | (go_at_call 16; fail))
        refine (CX.out _).mono ?_
        rintro e' W287 ⟨rfl, hb⟩
        have K288 : Hid _ := K286.out.call hb
        clear hb K286
        go_wp2
        go_ret
        exact ⟨rfl, K288.out.bel⟩
end Go.Proofs.Ytohknfoljnddjaa
