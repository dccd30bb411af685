/- Whether an inode's numbers are data blocks', each once; a number in a row of numbers; for every inode. -/
import Derived.Test.YtohknfoljnddjaaNums
import Derived.Test.YtohknfoljnddjaaRows2
import Derived.Test.YtohknfoljnddjaaNEq
namespace Go.Proofs.Ytohknfoljnddjaa
open Go.RowKit

/-- Is v among the first n? -/
def hasB (d : Nat → Int) (n : Nat) (v : Int) : Bool := (List.range n).any fun j => d j == v
theorem hasB_iff (d : Nat → Int) (n : Nat) (v : Int) : hasB d n v = true ↔ ∃ j, j < n ∧ d j = v := by
  simp [hasB, List.any_eq_true, List.mem_range]
set_option maxRecDepth 20000 in
set_option maxHeartbeats 400000 in
theorem index_any (g n cap : Nat) (d : Nat → Int) (v : Int) (w : World) (hn : n ≤ 12) (hc : ∀ i, i < n → w.cell? ⟨g, i, none⟩ = some (.int .u32 (d i))) :
    Calls Try.prog 51 #[.slice (some ⟨g, 0, none⟩) n cap, .int .u32 v] w fun e w' => (∃ r : Int, e = .returned (.int .i64 r) ∧ (0 ≤ r ↔ hasB d n v = true)) ∧ w' = w := by
  have HC : Hid _ := hc
  clear hc
  have HI : Hid (hasB d n v = true ↔ ∃ j, j < n ∧ d j = v) := hasB_iff d n v
  generalize hasB d n v = V at *
  go_enter Try.func51, Try.ntmps51
  go_wp2
  go_loopw [8] (fun s8 wx => ∃ m : Nat, m ≤ n ∧ s8 = .int .i64 m ∧ (∀ j, j < m → d j ≠ v) ∧ wx = w) (fun s8 _ => n - (intOf s8).toNat)
  case atStart => exact ⟨0, by omega, rfl, fun j hj => absurd hj (by omega), rfl⟩
  case round =>
    obtain ⟨m, hm, rfl, hno, rfl⟩ := hrel
    have HNO : Hid _ := hno
    clear hno
    by_cases hmn : (m : Int) < n
    · have hcm := HC.out m (by omega)
      have HY : Hid (d m = v → V = true) := fun q => HI.out.2 ⟨m, by omega, q⟩
      have HN : Hid (d m ≠ v → ∀ j, j < m + 1 → d j ≠ v) := fun q j hj => by
        by_cases e : j = m
        · rw [e]; exact q
        · exact HNO.out j (by omega)
      clear HNO HI HC
      generalize d m = x at *
      by_cases hx : v = x
      · go_wp2
        go_ret
        exact ⟨⟨_, rfl, by simp [HY.out hx.symm]⟩, rfl⟩
      · go_wp2
        exact ⟨⟨m + 1, by omega, by go_num, fun j hj q => absurd q (HN.out (fun q => hx q.symm) j hj), trivial⟩, by simp [intOf]; omega⟩
    · obtain rfl : m = n := by omega
      have HF : Hid (V = false) := by
        show _ = _
        cases hV : V
        · rfl
        · obtain ⟨j, hj, q⟩ := HI.out.1 hV
          exact absurd q (HNO.out j hj)
      clear HNO HI HC
      go_wp2
      go_ret
      exact ⟨⟨-1, rfl, by rw [HF.out]; simp⟩, rfl⟩
theorem contains_any (g n cap : Nat) (d : Nat → Int) (v : Int) (w : World) (hn : n ≤ 12) (hc : ∀ i, i < n → w.cell? ⟨g, i, none⟩ = some (.int .u32 (d i))) :
    Calls Try.prog 49 #[.slice (some ⟨g, 0, none⟩) n cap, .int .u32 v] w fun e w' => e = .returned (.bool (hasB d n v)) ∧ w' = w := by
  have hi := index_any g n cap d v w hn hc
  clear hc
  generalize hasB d n v = V at *
  go_enter Try.func49, Try.ntmps49
  go_wp2_with (first | (go_at_call 51; fail))
  refine hi.mono ?_
  rintro e w' ⟨⟨r, rfl, hr⟩, rfl⟩
  clear hi
  by_cases h0 : 0 ≤ r
  · have HV : Hid (V = true) := hr.1 h0
    clear hr
    go_wp2
    go_ret
    exact ⟨by rw [HV.out]; rfl, rfl⟩
  · have HV : Hid (V = false) := by
      show _ = _
      cases V
      · rfl
      · exact absurd (hr.2 rfl) h0
    clear hr
    go_wp2
    go_ret
    exact ⟨by rw [HV.out]; exact ret_bool (decide_eq_false (by omega)), rfl⟩
theorem slice62h (g m : Nat) (hm : m ≤ 12) (u : World) :
    (Instr.sliceAt 62 (.pointer (some ⟨g, 0, none⟩)) none (some (.int .i64 (m : Int))) none).run Try.prog u = .ok (.slice (some ⟨g, 0, none⟩) m 12) u := by
  have ea : Try.prog.arrayLen 62 = 12 := by kernel_rfl
  have ee : Try.prog.elem 62 = 24 := by kernel_rfl
  have h := run_sliceAt_array_h (P := Try.prog) u 62 ⟨g, 0, none⟩ (by rw [ea, ee]; exact Try.underlying62) .i64 (m : Int) (by omega) (by rw [ea]; omega)
  rw [h, ea, ee]
  simp [Try.sizeOf24, slicedAt, Addr.add]

abbrev PlaceP (lo hi : Int) (d : Nat → Int) (m : Nat) : Prop := ∀ i, i < m → d i ≠ 0 → lo ≤ d i ∧ d i < hi ∧ hasB d i (d i) = false
theorem place_next {lo hi : Int} {d : Nat → Int} {m : Nat} (h : PlaceP lo hi d m) (h1 : d m ≠ 0 → lo ≤ d m ∧ d m < hi ∧ hasB d m (d m) = false) : PlaceP lo hi d (m + 1) := fun i hi => by
  by_cases q : i = m
  · subst q; exact h1
  · exact h i (by omega)
set_option maxRecDepth 20000 in
set_option maxHeartbeats 1000000 in
theorem placed_any (B L I a c dd e f lo : Int) (k l s b : Int) (d : Nat → Int) (w : World) (h : NodeOk k l s b d) (hlo : 0 ≤ lo ∧ lo < 4294967296) (hB : 0 ≤ B ∧ B < 4294967296) :
    Calls Try.prog 45 #[.agg (lay9 B L I a c dd e f lo), .agg (node16 k l s b d)] w fun e' w' => e' = .returned (.bool (decide (PlaceP lo B d 12))) ∧ Below w.heap.size w w' := by
  have HT : Hid (PlaceP lo B d 12 → true = decide (PlaceP lo B d 12)) := fun q => (decide_eq_true q).symm
  have HFF : Hid (∀ i, i < 12 → d i ≠ 0 → ¬ (lo ≤ d i ∧ d i < B ∧ hasB d i (d i) = false) → false = decide (PlaceP lo B d 12)) := fun i hi h0 h1 => (decide_eq_false fun q => h1 (q i hi h0)).symm
  generalize decide (PlaceP lo B d 12) = v at *
  have z62 := zero62
  have hnum := fun W => numbers_any k l s b d W
  have HD : Hid _ := h.d
  clear h
  have hsz : (Try.prog.info? 27).map (·.size) = some (node16 k l s b d).size := size27
  generalize node16 k l s b d = N at *
  obtain ⟨hlo0, hlo1⟩ := hlo
  obtain ⟨hB0, hB1⟩ := hB
  have l0 : (lay9 B L I a c dd e f lo)[0]? = some (.int .i64 B) := rfl
  have l8 : (lay9 B L I a c dd e f lo)[8]? = some (.int .i64 lo) := rfl
  generalize lay9 B L I a c dd e f lo = Y at *
  go_enter Try.func45, Try.ntmps45
  go_wp2_with (first | refine wpList_ldR 27 Try.underlying27 rfl rfl _ rfl _ rfl _ 27 (0, 0) hsz (heap_alloc2_new _ _ _) ?_ | (go_at_call 25; fail))
  refine (hnum _).mono ?_
  rintro e' W1 ⟨rfl, hb1⟩
  have h1 := heap_kept (heap_alloc2_old w (.cells Y 43) (.cells N 27)) hb1
  have HB : Hid (Below w.heap.size w W1) := below_next (bel_al (below_new _ _) _) hb1
  have y0 : W1.cell? ⟨w.heap.size, 0, none⟩ = some (.int .i64 B) := (cell_of_row W1 _ 0 Y 43 _ h1).trans l0
  have y8 : W1.cell? ⟨w.heap.size, 8, none⟩ = some (.int .i64 lo) := (cell_of_row W1 _ 8 Y 43 _ h1).trans l8
  have hlt : w.heap.size < W1.heap.size := (Array.getElem?_eq_some_iff.1 h1).1
  clear hb1 hnum h1 hsz l0 l8
  go_wp2_with (first | refine wpList_stNew 62 rfl _ _ rfl _ _ _ 62 (by rw [w12_size]; exact size62) (by rfl) (w12_one _) rfl rfl rfl ?_ | refine wpList_ldR 62 Try.underlying62 rfl rfl _ rfl _ rfl _ 62 (0, 0) (by rw [w12_size]; exact size62) (heap_alloc_new _ _) ?_)
  go_loopw [11] (fun s11 wx => ∃ m : Nat, m ≤ 12 ∧ s11 = .int .i64 m ∧ PlaceP lo B d m ∧ wx = W1.alloc (.cells (w12 d) 62)) (fun s11 _ => 12 - (intOf s11).toNat)
  case atStart => exact ⟨0, by omega, rfl, fun i hi => absurd hi (by omega), rfl⟩
  case round =>
    obtain ⟨m, hm, rfl, hr, rfl⟩ := hrel
    have HR : Hid _ := hr
    clear hr
    by_cases h12 : (m : Int) < 12
    · have hidx := idx62 d m (by omega)
      have HN : Hid _ := @place_next lo B d m HR.out
      have HX : Hid _ := HFF.out m (by omega)
      have HCO : Hid _ := contains_any W1.heap.size m 12 d (d m) (W1.alloc (.cells (w12 d) 62)) (by omega) (fun i hi => (cell_of_row _ _ i _ 62 _ (heap_alloc_new _ _)).trans (w12_get d i (by omega)))
      obtain ⟨hx0, hx1⟩ := HD.out m
      clear HR HD
      generalize hasB d m (d m) = V at *
      generalize d m = x at *
      by_cases hx : x = 0
      · go_wp2
        exact ⟨⟨m + 1, by omega, by go_num, HN.out (fun q => absurd hx q), trivial⟩, by simp [intOf]; omega⟩
      · by_cases ha : x < lo
        · go_wp2
          go_ret
          exact ⟨ret_bool (HX.out hx (by omega)), below_next HB.out (below_new _ _)⟩
        · by_cases hb : B ≤ x
          · go_wp2
            go_ret
            exact ⟨ret_bool (HX.out hx (by omega)), below_next HB.out (below_new _ _)⟩
          · have hsl := slice62h W1.heap.size m (by omega)
            cases V
            · go_wp2_with (first | (go_at_call 49; fail))
              refine Calls.mono HCO.out ?_
              rintro e' W2 ⟨rfl, rfl⟩
              go_wp2
              exact ⟨⟨m + 1, by omega, by go_num, HN.out (fun _ => ⟨by omega, by omega, trivial⟩), trivial⟩, by simp [intOf]; omega⟩
            · go_wp2_with (first | (go_at_call 49; fail))
              refine Calls.mono HCO.out ?_
              rintro e' W2 ⟨rfl, rfl⟩
              go_wp2
              go_ret
              exact ⟨ret_bool (HX.out hx (fun q => by cases q.2.2)), below_next HB.out (below_new _ _)⟩
    · obtain rfl : m = 12 := by omega
      clear hm
      go_wp2
      go_ret
      exact ⟨ret_bool (HT.out HR.out), below_next HB.out (below_new _ _)⟩
end Go.Proofs.Ytohknfoljnddjaa
