/- Paths: may one be; its first name, and what stands behind it; no condition. -/
import Derived.Test.YtadljgaadjajdaaRt1
namespace Go.Proofs.Ytadljgaadjajdaa
open Go.RowKit Go.Maps
theorem okL_byt (s : ByteArray) : okL (bl s) = true ↔ 0 < s.size ∧ byt s 0 = 47 ∧ s.size ≤ 1024 ∧ ∀ i, i < s.size → ¬ byt s i = 0 := by
  rw [okL_iff, bl_len]
  constructor
  · rintro ⟨h1, h2, h3⟩
    have h0 : 0 < s.size := (List.getElem?_eq_some_iff.1 h1).1
    refine ⟨h0, (byt_stroke h1).2 rfl, h2, fun i hi q => ?_⟩
    have e := bl_get s i hi
    have := (byt_nought e).1 q
    rw [this] at e
    exact h3 (List.mem_of_getElem? e)
  · rintro ⟨h0, h1, h2, h3⟩
    have e := bl_get s 0 h0
    refine ⟨?_, h2, fun q => ?_⟩
    · rw [e, (byt_stroke e).1 h1]
    · obtain ⟨i, hi⟩ := List.getElem?_of_mem q
      have hlt : i < s.size := (List.getElem?_eq_some_iff.1 hi).1
      exact h3 i hlt ((byt_nought hi).2 rfl)
theorem okL_no {s : ByteArray} (h : ¬ (0 < s.size ∧ byt s 0 = 47 ∧ s.size ≤ 1024 ∧ ∀ i, i < s.size → ¬ byt s i = 0)) : okL (bl s) = false := by
  cases e : okL (bl s) with
  | false => rfl
  | true => exact absurd ((okL_byt s).1 e) h
set_option maxRecDepth 20000 in
set_option maxHeartbeats 1000000 in
theorem well_any (s : ByteArray) (w : World) (hs : s.size ≤ 9223372036854775807) :
    Calls Try.prog 21 #[.string s] w fun e w' => e = .returned (.bool (okL (bl s))) ∧ w' = w := by
  by_cases h0 : s.size = 0
  · have e := okL_no (s := s) (fun q => by omega)
    rw [e, nm_empty h0]
    go_enter Try.func21, Try.ntmps21
    go_wp2
    go_ret
    exact ⟨rfl, rfl⟩
  have h3 := nm_list (s := s) (by omega)
  have hr0 : ∀ u : World, (Instr.index 9 (.string s) (.int .i64 0)).run Try.prog u = .ok (.int .u8 (byt s 0)) u := idx_str s 0 (by omega)
  by_cases h1 : byt s 0 = 47
  · by_cases h2 : s.size ≤ 1024
    · have HO : Hid (∀ b, ((∀ i, i < s.size → ¬ byt s i = 0) → b = true) → ((∃ i, i < s.size ∧ byt s i = 0) → b = false) → okL (bl s) = b) := fun b hb1 hb2 => by
        by_cases q : ∀ i, i < s.size → ¬ byt s i = 0
        · rw [hb1 q]; exact (okL_byt s).2 ⟨by omega, h1, h2, q⟩
        · have q2 : ∃ i, i < s.size ∧ byt s i = 0 := by
            apply Classical.byContradiction
            intro hn
            exact q fun i hi e => hn ⟨i, hi, e⟩
          rw [hb2 q2]
          exact okL_no fun z => q z.2.2.2
      rw [h1] at hr0
      generalize okL (bl s) = B at *
      have g1 : decide ((1024 : Int) < (s.size : Int)) = false := decide_eq_false (by omega)
      clear h1
      go_enter Try.func21, Try.ntmps21
      go_wp2
      go_loopw [18] (fun s18 wx => wx = w ∧ ∃ i : Nat, i ≤ s.size ∧ Hid (∀ j, j < i → ¬ byt s j = 0) ∧ s18 = .int .i64 i) (fun s18 _ => s.size - (intOf s18).toNat)
      case atStart => exact ⟨rfl, 0, by omega, fun j hj => absurd hj (Nat.not_lt_zero j), rfl⟩
      case round =>
        obtain ⟨rfl, i, hi, HN, rfl⟩ := hrel
        by_cases hi2 : (i : Int) < (s.size : Int)
        · have hr := idx_str s i (by omega)
          by_cases b0 : byt s i = 0
          · have hB : B = false := HO.out false (fun q => absurd b0 (q i (by omega))) (fun _ => rfl)
            rw [b0] at hr
            subst hB
            clear b0 HO HN
            go_wp2
            go_ret
            exact ⟨rfl, rfl⟩
          · have HN2 : Hid (∀ j, j < i + 1 → ¬ byt s j = 0) := fun j hj => by
              by_cases e : j = i
              · subst e; exact b0
              · exact HN.out j (by omega)
            have g2 : (byt s i == 0) = false := beq_eq_false_iff_ne.2 b0
            generalize byt s i = x at hr b0 g2
            clear HN
            go_wp2
            exact ⟨⟨trivial, i + 1, by omega, HN2, by go_num⟩, by simp [intOf]; omega⟩
        · have hB : B = true := HO.out true (fun _ => rfl) (fun ⟨j, hj, q⟩ => absurd q (HN.out j (by omega)))
          subst hB
          clear HO HN
          go_wp2
          go_ret
          exact ⟨rfl, rfl⟩
    · have e := okL_no (s := s) (fun q => h2 q.2.2.1)
      rw [e]
      rw [h1] at hr0
      have g1 : decide ((1024 : Int) < (s.size : Int)) = true := decide_eq_true (by omega)
      clear h1 e
      go_enter Try.func21, Try.ntmps21
      go_wp2
      go_ret
      exact ⟨rfl, rfl⟩
  · have e := okL_no (s := s) (fun q => h1 q.2.1)
    rw [e]
    have g0 : (byt s 0 == 47) = false := beq_eq_false_iff_ne.2 h1
    generalize byt s 0 = x at *
    clear e
    go_enter Try.func21, Try.ntmps21
    go_wp2
    go_ret
    exact ⟨rfl, rfl⟩
/-- n is r's first name, q what stands behind it; where there is no name both are empty. -/
def CutOk (r n q : ByteArray) : Prop := (n.size = 0 → nms (bl r) = []) ∧ (0 < n.size → nms (bl r) = bl n :: nms (bl q)) ∧ n.size + q.size ≤ r.size
theorem cut_ok {r : ByteArray} {a k : Nat} (ha : ∀ j, j < a → byt r j = 47) (ha2 : a < r.size → ¬ byt r a = 47) (hk : a ≤ k ∧ k ≤ r.size) (hp : (∀ j, a ≤ j → j < k → ¬ byt r j = 47) ∧ (k < r.size → byt r k = 47)) : CutOk r (r.extract a k) (r.extract k r.size) := by
  obtain ⟨h1, h2⟩ := hk
  obtain ⟨p1, p2⟩ := hp
  have hs1 : (r.extract a k).size = k - a := by rw [ByteArray.size_extract]; omega
  have hs2 : (r.extract k r.size).size = r.size - k := by rw [ByteArray.size_extract]; omega
  have eP := bl_extract r a k
  have eQ := bl_extract r k r.size
  have eR : bl r = (bl r).take a ++ (bl (r.extract a k) ++ bl (r.extract k r.size)) := by
    rw [eP, eQ, show (bl r).take r.size = bl r by rw [← bl_len r, List.take_length], ← List.append_assoc]
    have : (bl r).take a ++ ((bl r).take k).drop a = (bl r).take k := by
      have := List.take_append_drop a ((bl r).take k)
      rw [List.take_take, Nat.min_eq_left h1] at this
      exact this
    rw [this, List.take_append_drop]
  have c1 : ∀ c ∈ (bl r).take a, c = 47 := fun c hc => by
    obtain ⟨j, hj⟩ := List.getElem?_of_mem hc
    rw [List.getElem?_take] at hj
    split at hj
    · rename_i hj2
      exact (byt_stroke hj).1 (ha j hj2)
    · cases hj
  have c2 : ∀ c ∈ bl (r.extract a k), c ≠ 47 := fun c hc => by
    rw [eP] at hc
    obtain ⟨j, hj⟩ := List.getElem?_of_mem hc
    rw [List.getElem?_drop, List.getElem?_take] at hj
    split at hj
    · rename_i hj2
      intro q
      exact p1 (a + j) (by omega) hj2 ((byt_stroke hj).2 q)
    · cases hj
  have c3 : nms (bl r) = nms (bl (r.extract a k) ++ bl (r.extract k r.size)) := by
    conv => lhs; rw [eR]
    exact nms_strokes _ _ c1
  refine ⟨fun h0 => ?_, fun h0 => ?_, by omega⟩
  · have e1 : k = a := by omega
    subst e1
    have e2 : ¬ k < r.size := fun q => ha2 q (p2 q)
    rw [c3, show bl (r.extract k k) = [] from List.eq_nil_of_length_eq_zero (by rw [bl_len]; exact h0), show bl (r.extract k r.size) = [] from List.eq_nil_of_length_eq_zero (by rw [bl_len]; omega)]
    rfl
  · have hne : bl (r.extract a k) ≠ [] := fun q => by
      have := bl_len (r.extract a k)
      rw [q] at this
      simp at this
      omega
    rw [c3]
    by_cases e : k < r.size
    · have hg : (bl (r.extract k r.size))[0]? = some 47 := by
        rw [eQ, show (bl r).take r.size = bl r by rw [← bl_len r, List.take_length], List.getElem?_drop, Nat.add_zero]
        have g := bl_get r k e
        rw [g, (byt_stroke g).1 (p2 e)]
      cases hq : bl (r.extract k r.size) with
      | nil => rw [hq] at hg; cases hg
      | cons c t =>
        rw [hq] at hg
        simp at hg
        subst hg
        rw [nms_app, nms_none c2, if_neg hne, nms_stroke]
        rfl
    · have : bl (r.extract k r.size) = [] := List.eq_nil_of_length_eq_zero (by rw [bl_len]; omega)
      rw [this, List.append_nil, nms_none c2, if_neg hne, nms_nil]
set_option maxRecDepth 20000 in
set_option maxHeartbeats 2000000 in
theorem cut_any (r : ByteArray) (w : World) (hs : r.size ≤ 9223372036854775807) :
    Calls Try.prog 22 #[.string r] w fun e w' => ∃ n q : ByteArray, e = .returned (.tuple #[.string n, .string q]) ∧ Below w.heap.size w w' ∧ CutOk r n q := by
  go_enter Try.func22, Try.ntmps22
  go_wp2
  go_loopw [4] (fun s4 wx => wx = w ∧ ∃ a : Nat, a ≤ r.size ∧ Hid (∀ j, j < a → byt r j = 47) ∧ s4 = .int .i64 a) (fun s4 _ => r.size - (intOf s4).toNat)
  case atStart => exact ⟨rfl, 0, by omega, fun j hj => absurd hj (Nat.not_lt_zero j), rfl⟩
  case round =>
    obtain ⟨rfl, a, ha, HN, rfl⟩ := hrel
    by_cases ha2 : (a : Int) < (r.size : Int)
    · have hra := idx_str r a (by omega)
      by_cases b1 : byt r a = 47
      · have HN2 : Hid (∀ j, j < a + 1 → byt r j = 47) := fun j hj => by
          by_cases e : j = a
          · subst e; exact b1
          · exact HN.out j (by omega)
        rw [b1] at hra
        clear HN b1
        go_wp2
        exact ⟨⟨trivial, a + 1, by omega, HN2, by go_num⟩, by simp [intOf]; omega⟩
      · have HA : Hid ((∀ j, j < a → byt r j = 47) ∧ (a < r.size → ¬ byt r a = 47)) := ⟨HN.out, fun _ => b1⟩
        have g1 : (byt r a == 47) = false := beq_eq_false_iff_ne.2 b1
        clear HN
        go_wp2
        go_loopw [5] (fun s5 wx => wx = wr ∧ ∃ k : Nat, a ≤ k ∧ k ≤ r.size ∧ Hid (∀ j, a ≤ j → j < k → ¬ byt r j = 47) ∧ s5 = .int .i64 k) (fun s5 _ => r.size - (intOf s5).toNat)
        case atStart => exact ⟨rfl, a, by omega, by omega, fun j h1 h2 => by omega, rfl⟩
        case round =>
          obtain ⟨rfl, k, hak, hk, HQ, rfl⟩ := hrel
          by_cases hk2 : (k : Int) < (r.size : Int)
          · have hrk := idx_str r k (by omega)
            by_cases b2 : byt r k = 47
            · have HP : Hid ((a ≤ k ∧ k ≤ r.size) ∧ (∀ j, a ≤ j → j < k → ¬ byt r j = 47) ∧ (k < r.size → byt r k = 47)) := ⟨⟨hak, hk⟩, HQ.out, fun _ => b2⟩
              rw [b2] at hrk
              clear HQ b2
              have hA : Hid (CutOk r (r.extract a k) (r.extract k r.size)) := cut_ok HA.out.1 HA.out.2 HP.out.1 HP.out.2
              have s1 : ∀ u : World, (Instr.slice 9 (.string r) (some (.int .i64 (a : Int))) (some (.int .i64 (k : Int))) none).run Try.prog u = .ok (.string (r.extract a k)) u := fun u => by
                have := run_slice_string (P := Try.prog) u 9 r .i64 .i64 (a : Int) (k : Int) Try.underlying9 (by omega) (by omega) (by omega)
                simpa using this
              have s2 : ∀ u : World, (Instr.slice 9 (.string r) (some (.int .i64 (k : Int))) none none).run Try.prog u = .ok (.string (r.extract k r.size)) u := fun u => by
                have := run_slice_string_from_if (P := Try.prog) u 9 r .i64 (k : Int) Try.underlying9
                rw [if_pos (by omega)] at this
                simpa using this
              generalize r.extract a k = n at *
              generalize r.extract k r.size = q at *
              clear HP HA
              go_wp2
              go_quiet (fail)
              go_wp2
              go_ret2
              exact ⟨n, q, rfl, belowN (Below.refl _ _) _, hA.out⟩
            · have HQ2 : Hid (∀ j, a ≤ j → j < k + 1 → ¬ byt r j = 47) := fun j h1 h2 => by
                by_cases e : j = k
                · subst e; exact b2
                · exact HQ.out j h1 (by omega)
              have g2 : (byt r k == 47) = false := beq_eq_false_iff_ne.2 b2
              generalize byt r k = x at hrk b2 g2
              clear HQ
              go_wp2
              all_goals exact ⟨⟨trivial, k + 1, by omega, by omega, HQ2, by go_num⟩, by simp [intOf]; omega⟩
          · have HP : Hid ((a ≤ k ∧ k ≤ r.size) ∧ (∀ j, a ≤ j → j < k → ¬ byt r j = 47) ∧ (k < r.size → byt r k = 47)) := ⟨⟨hak, hk⟩, HQ.out, fun q => by omega⟩
            clear HQ
            have hA : Hid (CutOk r (r.extract a k) (r.extract k r.size)) := cut_ok HA.out.1 HA.out.2 HP.out.1 HP.out.2
            have s1 : ∀ u : World, (Instr.slice 9 (.string r) (some (.int .i64 (a : Int))) (some (.int .i64 (k : Int))) none).run Try.prog u = .ok (.string (r.extract a k)) u := fun u => by
              have := run_slice_string (P := Try.prog) u 9 r .i64 .i64 (a : Int) (k : Int) Try.underlying9 (by omega) (by omega) (by omega)
              simpa using this
            have s2 : ∀ u : World, (Instr.slice 9 (.string r) (some (.int .i64 (k : Int))) none none).run Try.prog u = .ok (.string (r.extract k r.size)) u := fun u => by
              have := run_slice_string_from_if (P := Try.prog) u 9 r .i64 (k : Int) Try.underlying9
              rw [if_pos (by omega)] at this
              simpa using this
            generalize r.extract a k = n at *
            generalize r.extract k r.size = q at *
            clear HP HA
            go_wp2
            go_quiet (fail)
            go_wp2
            go_ret2
            exact ⟨n, q, rfl, belowN (Below.refl _ _) _, hA.out⟩
    · have HA : Hid ((∀ j, j < a → byt r j = 47) ∧ (a < r.size → ¬ byt r a = 47)) := ⟨HN.out, fun q => by omega⟩
      clear HN
      go_wp2
      go_loopw [5] (fun s5 wx => wx = wr ∧ ∃ k : Nat, a ≤ k ∧ k ≤ r.size ∧ Hid (∀ j, a ≤ j → j < k → ¬ byt r j = 47) ∧ s5 = .int .i64 k) (fun s5 _ => r.size - (intOf s5).toNat)
      case atStart => exact ⟨rfl, a, by omega, by omega, fun j h1 h2 => by omega, rfl⟩
      case round =>
        obtain ⟨rfl, k, hak, hk, HQ, rfl⟩ := hrel
        by_cases hk2 : (k : Int) < (r.size : Int)
        · have hrk := idx_str r k (by omega)
          by_cases b2 : byt r k = 47
          · have HP : Hid ((a ≤ k ∧ k ≤ r.size) ∧ (∀ j, a ≤ j → j < k → ¬ byt r j = 47) ∧ (k < r.size → byt r k = 47)) := ⟨⟨hak, hk⟩, HQ.out, fun _ => b2⟩
            rw [b2] at hrk
            clear HQ b2
            have hA : Hid (CutOk r (r.extract a k) (r.extract k r.size)) := cut_ok HA.out.1 HA.out.2 HP.out.1 HP.out.2
            have s1 : ∀ u : World, (Instr.slice 9 (.string r) (some (.int .i64 (a : Int))) (some (.int .i64 (k : Int))) none).run Try.prog u = .ok (.string (r.extract a k)) u := fun u => by
              have := run_slice_string (P := Try.prog) u 9 r .i64 .i64 (a : Int) (k : Int) Try.underlying9 (by omega) (by omega) (by omega)
              simpa using this
            have s2 : ∀ u : World, (Instr.slice 9 (.string r) (some (.int .i64 (k : Int))) none none).run Try.prog u = .ok (.string (r.extract k r.size)) u := fun u => by
              have := run_slice_string_from_if (P := Try.prog) u 9 r .i64 (k : Int) Try.underlying9
              rw [if_pos (by omega)] at this
              simpa using this
            generalize r.extract a k = n at *
            generalize r.extract k r.size = q at *
            clear HP HA
            go_wp2
            go_quiet (fail)
            go_wp2
            go_ret2
            exact ⟨n, q, rfl, belowN (Below.refl _ _) _, hA.out⟩
          · have HQ2 : Hid (∀ j, a ≤ j → j < k + 1 → ¬ byt r j = 47) := fun j h1 h2 => by
              by_cases e : j = k
              · subst e; exact b2
              · exact HQ.out j h1 (by omega)
            have g2 : (byt r k == 47) = false := beq_eq_false_iff_ne.2 b2
            generalize byt r k = x at hrk b2 g2
            clear HQ
            go_wp2
            all_goals exact ⟨⟨trivial, k + 1, by omega, by omega, HQ2, by go_num⟩, by simp [intOf]; omega⟩
        · have HP : Hid ((a ≤ k ∧ k ≤ r.size) ∧ (∀ j, a ≤ j → j < k → ¬ byt r j = 47) ∧ (k < r.size → byt r k = 47)) := ⟨⟨hak, hk⟩, HQ.out, fun q => by omega⟩
          clear HQ
          have hA : Hid (CutOk r (r.extract a k) (r.extract k r.size)) := cut_ok HA.out.1 HA.out.2 HP.out.1 HP.out.2
          have s1 : ∀ u : World, (Instr.slice 9 (.string r) (some (.int .i64 (a : Int))) (some (.int .i64 (k : Int))) none).run Try.prog u = .ok (.string (r.extract a k)) u := fun u => by
            have := run_slice_string (P := Try.prog) u 9 r .i64 .i64 (a : Int) (k : Int) Try.underlying9 (by omega) (by omega) (by omega)
            simpa using this
          have s2 : ∀ u : World, (Instr.slice 9 (.string r) (some (.int .i64 (k : Int))) none none).run Try.prog u = .ok (.string (r.extract k r.size)) u := fun u => by
            have := run_slice_string_from_if (P := Try.prog) u 9 r .i64 (k : Int) Try.underlying9
            rw [if_pos (by omega)] at this
            simpa using this
          generalize r.extract a k = n at *
          generalize r.extract k r.size = q at *
          clear HP HA
          go_wp2
          go_quiet (fail)
          go_wp2
          go_ret2
          exact ⟨n, q, rfl, belowN (Below.refl _ _) _, hA.out⟩
end Go.Proofs.Ytadljgaadjajdaa
