/- What indices cost: the set of blocks that plan keeps; no condition but fewer indices than memory has. -/
import Derived.Test.YtcimehjcajdfiabNums
import Derived.Test.YtcimehjcajdfiabInts
namespace Go.Proofs.Ytcimehjcajdfiab
open Go.RowKit Go.Maps
abbrev WfI (ts : List Int) : Prop := ∀ t ∈ ts, (Lit.int .i64 t).wf = true
theorem lawK : Keyed Try.prog 3 := int_keyed Try.underlying3
theorem zero44 (w : World) : (zeroValue 36).run Try.prog w = .ok (.agg #[]) w := by kernel_rfl
def Sd (ts : List Int) : DataW Unit := setOf (.agg []) (ts.map (Lit.int .i64))
theorem any_int (x : Int) : ∀ l : List Int, l.any ((fun y : Lit => y.sameKey (.int .i64 x)) ∘ Lit.int .i64) = l.contains x
  | [] => rfl
  | a :: r => by
    rw [List.any_cons, List.contains_cons, any_int x r]
    congr 1
    show decide (IntKind.i64 = IntKind.i64 ∧ a = x) = (x == a)
    by_cases e : a = x
    · subst e
      simp
    · have e' : ¬ x = a := fun h => e h.symm
      simp [e, e']
theorem has_Sd (ts : List Int) (x : Int) : Maps.has (Sd ts) (.int .i64 x) = ts.contains x := by
  unfold Sd
  rw [has_setOf _ _ _ (fun y hy => by obtain ⟨_, _, rfl⟩ := List.mem_map.1 hy; trivial), List.any_map]
  exact any_int x _
theorem Sd_snoc (ts : List Int) (x : Int) : Sd (ts ++ [x]) = (Sd ts).put (.int .i64 x) (.agg []) := by
  unfold Sd
  rw [List.map_append]
  exact setOf_snoc _ _ _
theorem makeNone (w : World) : (Instr.makeMap 34 none).run Try.prog w = .ok (.map (some w.heap.size)) (w.alloc (.map #[] 0)) := by
  simp [Instr.makeMap, go_sem]
set_option maxRecDepth 20000 in
set_option maxHeartbeats 1000000 in
theorem meet_any (b N : Nat) (K ts : List Int) (p : Option Addr) (cap : Nat) (w : World) (B : Nat) (hB : B ≤ b) (hN : N + ts.length < 4611686018427387904) (hts : IntsAt w p ts) (hwf : WfI ts) (hown : w.ownsMap Try.prog 3 unitElem b N (Sd K)) (hpb : ∀ g o, p = some ⟨g, o, none⟩ → g ≠ b) :
    Calls Try.prog 10 #[.map (some b), .slice p ts.length cap] w fun e' w' => e' = .returned (.tuple #[]) ∧ w'.ownsMap Try.prog 3 unitElem b (N + ts.length) (Sd (K ++ ts)) ∧ Below B w w' := by
  obtain ⟨n, hn⟩ : ∃ n, ts.length = n := ⟨_, rfl⟩
  have HT : Hid (IntsAt w p ts ∧ WfI ts ∧ ts.length = n ∧ (∀ g o, p = some ⟨g, o, none⟩ → g ≠ b)) := ⟨hts, hwf, hn, hpb⟩
  have HO : Hid (w.ownsMap Try.prog 3 unitElem b N (Sd K)) := hown
  rw [hn]
  rw [hn] at hN
  have hb : b < w.heap.size := hown.lt
  clear hts hwf hn hpb hown
  go_enter Try.func10, Try.ntmps10
  go_wp2
  go_loopw [8] (fun s8 wr => ∃ k : Nat, k ≤ n ∧ s8 = .int .i64 k ∧ Hid (wr.ownsMap Try.prog 3 unitElem b (N + k) (Sd (K ++ ts.take k))) ∧ Hid (w.grownBy wr (some b))) (fun s8 _ => n - (intOf s8).toNat)
  case atStart => exact ⟨0, by omega, rfl, by show World.ownsMap _ _ _ _ _ _ _; simpa using HO.out, World.grownBy.refl _ _⟩
  case round =>
    obtain ⟨k, hk, rfl, Hown, HW⟩ := hrel
    by_cases hk2 : (k : Int) < n
    · obtain ⟨hts, hwf, hn, hpb⟩ := HT.out
      have hx : ts[k]? = some ts[k] := List.getElem?_eq_getElem (by omega)
      have htk : ts.take (k + 1) = ts.take k ++ [ts[k]] := by rw [List.take_add_one, hx]; rfl
      have hmem : ts[k] ∈ ts := List.getElem_mem _
      have hxw := hwf _ hmem
      obtain ⟨b1, o1, rfl, l1, C1⟩ := hts (by omega)
      generalize ts[k] = x at hx htk hmem hxw
      have q1 : wr.cell? ⟨b1, o1 + k, none⟩ = some (.int .i64 x) := (World.cell?_of_block (a := ⟨b1, o1 + k, none⟩) (HW.out.block b1 l1 (by simpa using hpb b1 o1 rfl))).trans (C1 k x hx)
      have hkey : keyOf Try.prog 3 (.int .i64 x) = some (.int .i64 x) := keyOf_int_mk Try.underlying3 hxw
      have hown := Hown.out
      have HD : Hid (Sd (K ++ ts.take (k + 1)) = (Sd (K ++ ts.take k)).put (.int .i64 x) (.agg [])) := by show _ = _; rw [htk, ← List.append_assoc]; exact Sd_snoc _ _
      generalize Sd (K ++ ts.take k) = D at *
      clear hx htk hmem hxw hwf hts hn C1 hpb
      have hkm : N + k < maxLen := by unfold maxLen; omega
      go_wp2_with (first
        | (at_mapUpdate; refine wpList_mapUpdate_own _ rfl _ _ _ 34 rfl 3 36 lawK Try.underlying34 (unitElem (H := Unit)) b (N + k) _ rfl hown hkm _ _ _ rfl rfl hkey _ [] unitElem_mk ?_; intro w1 hown1 hgrow1)
        | go_in)
      go_roundw
      case rel =>
        refine ⟨k + 1, by omega, by go_num, ?_, ?_⟩
        · have := HD.out
          rw [this]
          exact hown1
        · exact World.grownBy.trans HW.out hgrow1
      case measure => simp [intOf]; omega
    · obtain rfl : k = n := by omega
      have HF : Hid (wr.ownsMap Try.prog 3 unitElem b (N + k) (Sd (K ++ ts))) := by
        have := Hown.out
        rwa [List.take_of_length_le (by rw [HT.out.2.2.1]; exact Nat.le_refl _)] at this
      have HB : Hid (Below B w wr) := (Below.refl _ _).grown HW.out (Nat.le_trans hB (Nat.le_of_lt hb)) (fun j hj => by injection hj with hj; rw [← hj]; exact hB)
      go_wp2
      go_end0
      exact ⟨rfl, HF.out, HB.out⟩
/-- The blocks that an index costs, as numbers. -/
def kOf (x : Int) : List Int := if x < 0 ∨ 65802 ≤ x then [] else if x < 10 then [x] else if x < 266 then [x, 65802] else [x, 65803, 65804 + (x - 266) / 256]
def keysL (zs : List Int) : List Int := zs.flatMap kOf
theorem kOf_none {x : Int} (h : x < 0 ∨ 65802 ≤ x) : kOf x = [] := if_pos h
theorem kOf_direct {x : Int} (h0 : 0 ≤ x) (h1 : x < 10) : kOf x = [x] := by unfold kOf; rw [if_neg (by omega), if_pos h1]
theorem kOf_single {x : Int} (h0 : 10 ≤ x) (h1 : x < 266) : kOf x = [x, 65802] := by unfold kOf; rw [if_neg (by omega), if_neg (by omega), if_pos h1]
theorem kOf_double {x : Int} (h0 : 266 ≤ x) (h1 : x < 65802) : kOf x = [x, 65803, 65804 + (x - 266) / 256] := by unfold kOf; rw [if_neg (by omega), if_neg (by omega), if_neg (by omega)]
theorem kOf_len (x : Int) : (kOf x).length ≤ 3 := by unfold kOf; split; simp; split; simp; split <;> simp
theorem keysL_snoc (zs : List Int) (x : Int) : keysL (zs ++ [x]) = keysL zs ++ kOf x := by unfold keysL; rw [List.flatMap_append]; simp
theorem ints_new (W : World) (ts : List Int) : IntsAt (W.alloc (.cells (ts.map (Value.int .i64)).toArray 3)) (some ⟨W.heap.size, 0, none⟩) ts := fun _ => by
  refine ⟨W.heap.size, 0, rfl, by simp, fun j x hx => ?_⟩
  rw [Nat.zero_add, cell_of_row _ _ j _ 3 _ (heap_alloc_new W _), List.getElem?_toArray, List.getElem?_map, hx]
  rfl
theorem wf64 {x : Int} (h : I64 x) : (Lit.int .i64 x).wf = true := by
  have := h
  have e1 : IntKind.i64.min = -9223372036854775808 := by kernel_rfl
  have e2 : IntKind.i64.max = 9223372036854775807 := by kernel_rfl
  simp only [Lit.wf, e1, e2, Bool.and_eq_true, decide_eq_true_eq]
  omega
theorem meet_new (b N : Nat) (K ts : List Int) (W : World) (B : Nat) (hB : B ≤ b) (hN : N + ts.length < 4611686018427387904) (hwf : ∀ t ∈ ts, I64 t) (hown : W.ownsMap Try.prog 3 unitElem b N (Sd K)) (s m : Nat) (hs : W.heap.size = s) (hm : ts.length = m) (cs : Array Value) (hcs : (ts.map (Value.int .i64)).toArray = cs) :
    Calls Try.prog 10 #[.map (some b), .slice (some ⟨s, 0, none⟩) m m] (W.alloc (.cells cs 3)) fun e' w' => e' = .returned (.tuple #[]) ∧ w'.ownsMap Try.prog 3 unitElem b (N + ts.length) (Sd (K ++ ts)) ∧ Below B W w' := by
  subst hs hm hcs
  exact (meet_any b N K ts _ _ _ B hB hN (ints_new W ts) (fun t ht => wf64 (hwf t ht)) (hown.alloc _) (fun g o q => by injection q with q; injection q with q; have := hown.lt; omega)).mono fun e w' ⟨h1, h2, h3⟩ => ⟨h1, h2, ((Below.refl _ _).alloc (Nat.le_trans hB (Nat.le_of_lt hown.lt)) _).trans h3⟩
set_option maxRecDepth 20000 in
set_option maxHeartbeats 2000000 in
theorem total_any (zs : List Int) (p : Option Addr) (cap : Nat) (w : World) (hlen : zs.length < 1152921504606846976) (hzs : IntsAt w p zs) :
    Calls Try.prog 8 #[.slice p zs.length cap] w fun e' w' => e' = .returned (.int .i64 (Maps.size (Sd (keysL zs)))) ∧ Below w.heap.size w w' := by
  obtain ⟨n, hn⟩ : ∃ n, zs.length = n := ⟨_, rfl⟩
  have HT : Hid (IntsAt w p zs ∧ zs.length = n) := ⟨hzs, hn⟩
  rw [hn] at hlen ⊢
  clear hzs hn
  have hwy := way_any
  unfold wayA way3 at hwy
  have hmm := makeNone
  go_enter Try.func8, Try.ntmps8
  go_wp2
  go_loopw [10] (fun s10 wr => ∃ k : Nat, k ≤ n ∧ s10 = .int .i64 k ∧ Hid (wr.ownsMap Try.prog 3 unitElem w.heap.size (3 * k) (Sd (keysL (zs.take k)))) ∧ Hid (Below w.heap.size w wr)) (fun s10 _ => n - (intOf s10).toNat)
  case atStart => exact ⟨0, by omega, rfl, World.ownsMap_made _ _ _ _, below_new _ _⟩
  case round =>
    obtain ⟨k, hk, rfl, Hown, HW⟩ := hrel
    by_cases hk2 : (k : Int) < n
    · obtain ⟨hzs, hn⟩ := HT.out
      have hx : zs[k]? = some zs[k] := List.getElem?_eq_getElem (by omega)
      have htk : zs.take (k + 1) = zs.take k ++ [zs[k]] := by rw [List.take_add_one, hx]; rfl
      have HK : Hid (keysL (zs.take (k + 1)) = keysL (zs.take k) ++ kOf zs[k]) := by show _ = _; rw [htk]; exact keysL_snoc _ _
      obtain ⟨b1, o1, rfl, l1, C1⟩ := hzs (by omega)
      generalize zs[k] = x at *
      have q1 : wr.cell? ⟨b1, o1 + k, none⟩ = some (.int .i64 x) := (HW.out.cell (p := ⟨b1, o1 + k, none⟩) l1).trans (C1 k x hx)
      have hw1 := hwy x
      clear hwy hx htk hzs hn C1
      have hfin : ∀ (ts : List Int) (V : World), kOf x = ts → V.ownsMap Try.prog 3 unitElem w.heap.size (3 * k + ts.length) (Sd (keysL (zs.take k) ++ ts)) → V.ownsMap Try.prog 3 unitElem w.heap.size (3 * (k + 1)) (Sd (keysL (zs.take (k + 1)))) := fun ts V h1 h2 => by
        rw [HK.out, h1]
        exact h2.mono (by have := kOf_len x; rw [h1] at this; omega)
      have HF : Hid (∀ (ts : List Int) (V : World), kOf x = ts → V.ownsMap Try.prog 3 unitElem w.heap.size (3 * k + ts.length) (Sd (keysL (zs.take k) ++ ts)) → V.ownsMap Try.prog 3 unitElem w.heap.size (3 * (k + 1)) (Sd (keysL (zs.take (k + 1))))) := hfin
      clear hfin HK
      generalize keysL (zs.take k) = K at *
      by_cases h0 : x < 0 ∨ 65802 ≤ x
      · have he := way_none h0
        rw [he.1, he.2.1, he.2.2] at hw1
        have HE : Hid (kOf x = []) := kOf_none h0
        clear he h0
        go_wp2_with (first | (go_at_call 7; fail))
        refine (hw1 _).mono ?_
        rintro e W1 ⟨rfl, hb1⟩
        have HO1 : Hid (W1.ownsMap Try.prog 3 unitElem w.heap.size (3 * k) (Sd K)) := Hown.out.kept (row := none) ⟨hb1.os, hb1.tape, hb1.output, hb1.size, fun i hi _ => hb1.block i hi⟩ (by simp)
        have HB1 : Hid (Below w.heap.size w W1) := HW.out.trans (hb1.mono HW.out.size)
        clear Hown HW q1 hb1 hw1
        go_wp2
        go_roundw
        case rel =>
          refine ⟨k + 1, by omega, by go_num, ?_, ?_⟩
          · exact HF.out [] _ HE.out (by rw [List.append_nil]; exact HO1.out.alloc _)
          · exact HB1.out.alloc HB1.out.size _
        case measure => simp [intOf]; omega
      · by_cases h1 : x < 10
        · have he := way_direct (by omega) h1
          rw [he.1, he.2.1, he.2.2] at hw1
          have HE : Hid (kOf x = [x]) := kOf_direct (by omega) h1
          have HWF : Hid (∀ t ∈ ([x] : List Int), I64 t) := by
            intro t ht
            simp at ht
            show I64 t
            unfold I64
            omega
          clear he
          go_wp2_with (first | (go_at_call 7; fail))
          refine (hw1 _).mono ?_
          rintro e W1 ⟨rfl, hb1⟩
          have HO1 : Hid (W1.ownsMap Try.prog 3 unitElem w.heap.size (3 * k) (Sd K)) := Hown.out.kept (row := none) ⟨hb1.os, hb1.tape, hb1.output, hb1.size, fun i hi _ => hb1.block i hi⟩ (by simp)
          have HB1 : Hid (Below w.heap.size w W1) := HW.out.trans (hb1.mono HW.out.size)
          clear Hown HW q1 hb1 hw1
          go_wp2_with (first | (go_at_call 10; fail))
          refine (meet_new w.heap.size (3 * k) K [x] _ w.heap.size (Nat.le_refl _) (by simp; omega) HWF.out (HO1.out.alloc _) _ _ (by simp) rfl _ rfl).mono ?_
          rintro e W2 ⟨rfl, ho2, hb2⟩
          have HO2 : Hid (W2.ownsMap Try.prog 3 unitElem w.heap.size (3 * (k + 1)) (Sd (keysL (zs.take (k + 1))))) := HF.out _ _ HE.out ho2
          have HB2 : Hid (Below w.heap.size w W2) := (HB1.out.alloc HB1.out.size _).trans hb2
          clear ho2 hb2 HO1 HB1 HF HE HWF
          go_wp2
          go_roundw
          case rel => exact ⟨k + 1, by omega, by go_num, HO2.out, HB2.out⟩
          case measure => simp [intOf]; omega
        · by_cases h2 : x < 266
          · have he := way_single (by omega) h2
            rw [he.1, he.2.1, he.2.2] at hw1
            have HE : Hid (kOf x = [x, 65802]) := kOf_single (by omega) h2
            have HWF : Hid (∀ t ∈ ([x, 65802] : List Int), I64 t) := by
              intro t ht
              simp at ht
              show I64 t
              unfold I64
              omega
            clear he
            go_wp2_with (first | (go_at_call 7; fail))
            refine (hw1 _).mono ?_
            rintro e W1 ⟨rfl, hb1⟩
            have HO1 : Hid (W1.ownsMap Try.prog 3 unitElem w.heap.size (3 * k) (Sd K)) := Hown.out.kept (row := none) ⟨hb1.os, hb1.tape, hb1.output, hb1.size, fun i hi _ => hb1.block i hi⟩ (by simp)
            have HB1 : Hid (Below w.heap.size w W1) := HW.out.trans (hb1.mono HW.out.size)
            clear Hown HW q1 hb1 hw1
            go_wp2_with (first | (go_at_call 10; fail))
            refine (meet_new w.heap.size (3 * k) K [x, 65802] _ w.heap.size (Nat.le_refl _) (by simp; omega) HWF.out (HO1.out.alloc _) _ _ (by simp) rfl _ rfl).mono ?_
            rintro e W2 ⟨rfl, ho2, hb2⟩
            have HO2 : Hid (W2.ownsMap Try.prog 3 unitElem w.heap.size (3 * (k + 1)) (Sd (keysL (zs.take (k + 1))))) := HF.out _ _ HE.out ho2
            have HB2 : Hid (Below w.heap.size w W2) := (HB1.out.alloc HB1.out.size _).trans hb2
            clear ho2 hb2 HO1 HB1 HF HE HWF
            go_wp2
            go_roundw
            case rel => exact ⟨k + 1, by omega, by go_num, HO2.out, HB2.out⟩
            case measure => simp [intOf]; omega
          · have he := way_double (i := x) (by omega) (by omega)
            rw [he.1, he.2.1, he.2.2] at hw1
            have HE : Hid (kOf x = [x, 65803, 65804 + (x - 266) / 256]) := kOf_double (x := x) (by omega) (by omega)
            have HWF : Hid (∀ t ∈ ([x, 65803, 65804 + (x - 266) / 256] : List Int), I64 t) := by
              intro t ht
              simp at ht
              show I64 t
              unfold I64
              omega
            have ew : IntKind.i64.wrap (65804 + (x - 266) / 256) = 65804 + (x - 266) / 256 := by rw [IntKind.wrap_i64]; omega
            clear he
            go_wp2_with (first | (go_at_call 7; fail))
            refine (hw1 _).mono ?_
            rintro e W1 ⟨rfl, hb1⟩
            have HO1 : Hid (W1.ownsMap Try.prog 3 unitElem w.heap.size (3 * k) (Sd K)) := Hown.out.kept (row := none) ⟨hb1.os, hb1.tape, hb1.output, hb1.size, fun i hi _ => hb1.block i hi⟩ (by simp)
            have HB1 : Hid (Below w.heap.size w W1) := HW.out.trans (hb1.mono HW.out.size)
            clear Hown HW q1 hb1 hw1
            go_wp2_with (first | (go_at_call 10; fail))
            refine (meet_new w.heap.size (3 * k) K [x, 65803, 65804 + (x - 266) / 256] _ w.heap.size (Nat.le_refl _) (by simp; omega) HWF.out (HO1.out.alloc _) _ _ (by simp) rfl _ rfl).mono ?_
            rintro e W2 ⟨rfl, ho2, hb2⟩
            have HO2 : Hid (W2.ownsMap Try.prog 3 unitElem w.heap.size (3 * (k + 1)) (Sd (keysL (zs.take (k + 1))))) := HF.out _ _ HE.out ho2
            have HB2 : Hid (Below w.heap.size w W2) := (HB1.out.alloc HB1.out.size _).trans hb2
            clear ho2 hb2 HO1 HB1 HF HE HWF
            go_wp2
            go_roundw
            case rel => exact ⟨k + 1, by omega, by go_num, HO2.out, HB2.out⟩
            case measure => simp [intOf]; omega
    · obtain rfl : k = n := by omega
      have HO : Hid (wr.ownsMap Try.prog 3 unitElem w.heap.size (3 * k) (Sd (keysL zs))) := by
        have := Hown.out
        rwa [List.take_of_length_le (by rw [HT.out.2]; exact Nat.le_refl _)] at this
      have hown := HO.out
      go_wp2_with (first | (at_len; refine wpList_len_own _ rfl _ 34 rfl 3 36 Try.underlying34 _ w.heap.size (3 * k) _ rfl hown ?_) | go_in)
      go_ret
      exact ⟨rfl, HW.out⟩
end Go.Proofs.Ytcimehjcajdfiab
