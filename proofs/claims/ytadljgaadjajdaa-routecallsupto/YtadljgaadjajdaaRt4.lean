/- Parse by the document: whatever the text; no condition. -/
import Derived.Test.YtadljgaadjajdaaRt3
namespace Go.Proofs.Ytadljgaadjajdaa
open Go.RowKit Go.Maps
/-- The document's account ahead of byte i. -/
structure RefSt (s : ByteArray) (acc : List (List UInt8)) (fr i : Nat) (lg : Bool) : Prop where
  le : fr ≤ i
  frag : i ≤ s.size → ∀ Q, nms ((bl s).take fr ++ Q) = acc ++ nms Q
  fin : s.size < i → nms (bl s) = acc
  dry : ∀ j, fr ≤ j → j < i → ¬ byt s j = 47
  sound : ∀ j, j < i → j < s.size → ¬ byt s j = 0
  long : lnL acc = lg
  len : acc.length ≤ i
theorem RefSt.start (s : ByteArray) : RefSt s [] 0 0 false :=
  ⟨Nat.le_refl _, fun _ _ => rfl, fun h => by omega, fun j _ h => by omega, fun j h => by omega, rfl, Nat.le_refl _⟩
theorem RefSt.step {s : ByteArray} {acc : List (List UInt8)} {fr i : Nat} {lg : Bool} (h : RefSt s acc fr i lg) (hi : i < s.size) (h0 : ¬ byt s i = 0) (h1 : ¬ byt s i = 47) : RefSt s acc fr (i + 1) lg :=
  ⟨by have := h.le; omega, fun _ => h.frag (by omega), fun q => by omega, fun j h2 h3 => by
    by_cases e : j = i
    · subst e; exact h1
    · exact h.dry j h2 (by omega), fun j h2 h3 => by
    by_cases e : j = i
    · subst e; exact h0
    · exact h.sound j (by omega) h3, h.long, by have := h.len; omega⟩
theorem RefSt.cut {s : ByteArray} {acc : List (List UInt8)} {fr i : Nat} {lg : Bool} (h : RefSt s acc fr i lg) : (bl s).take i = (bl s).take fr ++ bl (s.extract fr i) ∧ ∀ c ∈ bl (s.extract fr i), c ≠ 47 := by
  rw [bl_extract]
  refine ⟨?_, fun c hc => ?_⟩
  · have := List.take_append_drop fr ((bl s).take i)
    rw [List.take_take, Nat.min_eq_left h.le] at this
    exact this.symm
  · obtain ⟨j, hj⟩ := List.getElem?_of_mem hc
    rw [List.getElem?_drop, List.getElem?_take] at hj
    split at hj
    · rename_i hj2
      intro q
      exact h.dry (fr + j) (by omega) hj2 ((byt_stroke hj).2 q)
    · cases hj
theorem take_stroke {s : ByteArray} {i : Nat} (hi : i < s.size) (hb : byt s i = 47) : (bl s).take (i + 1) = (bl s).take i ++ [47] := by
  have g := bl_get s i hi
  rw [List.take_add_one, g, (byt_stroke g).1 hb]
  rfl
/-- A border: with what stands ahead of it. -/
theorem RefSt.both {s : ByteArray} {acc : List (List UInt8)} {fr i : Nat} {lg : Bool} (h : RefSt s acc fr i lg) (hi : i ≤ s.size) (hb : i < s.size → byt s i = 47) :
    (i + 1 ≤ s.size → ∀ Q, nms ((bl s).take (i + 1) ++ Q) = (acc ++ nms (bl (s.extract fr i))) ++ nms Q) ∧ (s.size < i + 1 → nms (bl s) = acc ++ nms (bl (s.extract fr i))) := by
  obtain ⟨c1, c2⟩ := h.cut
  refine ⟨fun h2 Q => ?_, fun h2 => ?_⟩
  · rw [take_stroke (by omega) (hb (by omega)), c1, List.append_assoc, List.append_assoc, h.frag hi, List.singleton_append, nms_app, List.append_assoc]
  · have e : i = s.size := by omega
    have : bl s = (bl s).take fr ++ bl (s.extract fr i) := by rw [← c1, e, ← bl_len s, List.take_length]
    have h9 := h.frag hi (bl (s.extract fr i))
    rw [← this] at h9
    exact h9
theorem RefSt.sound2 {s : ByteArray} {acc : List (List UInt8)} {fr i : Nat} {lg : Bool} (h : RefSt s acc fr i lg) (hb : i < s.size → byt s i = 47) : ∀ j, j < i + 1 → j < s.size → ¬ byt s j = 0 := fun j h2 h3 q => by
  by_cases e : j = i
  · subst e; rw [hb h3] at q; cases q
  · exact h.sound j (by omega) h3 q
theorem RefSt.piece {s : ByteArray} {acc : List (List UInt8)} {fr i : Nat} {lg : Bool} (h : RefSt s acc fr i lg) (hi : i ≤ s.size) (hf : fr < i) (hb : i < s.size → byt s i = 47) : RefSt s (acc ++ [bl (s.extract fr i)]) (i + 1) (i + 1) (lg || decide (14 < i - fr)) := by
  obtain ⟨c1, c2⟩ := h.cut
  have hz : (s.extract fr i).size = i - fr := by rw [ByteArray.size_extract]; omega
  have hne : bl (s.extract fr i) ≠ [] := fun q => by
    have := bl_len (s.extract fr i)
    rw [q] at this
    simp at this
    omega
  have e1 : nms (bl (s.extract fr i)) = [bl (s.extract fr i)] := by rw [nms_none c2, if_neg hne]
  obtain ⟨b1, b2⟩ := h.both hi hb
  rw [e1] at b1 b2
  refine ⟨Nat.le_refl _, b1, b2, fun j h2 h3 => by omega, h.sound2 hb, ?_, by have := h.len; rw [List.length_append, List.length_singleton]; omega⟩
  rw [← h.long]
  unfold lnL
  rw [List.any_append, List.any_cons, List.any_nil, Bool.or_false, bl_len, hz]
theorem RefSt.none {s : ByteArray} {acc : List (List UInt8)} {fr i : Nat} {lg : Bool} (h : RefSt s acc fr i lg) (hi : i ≤ s.size) (hf : fr = i) (hb : i < s.size → byt s i = 47) : RefSt s acc (i + 1) (i + 1) lg := by
  have hz : (s.extract fr i).size = 0 := by rw [ByteArray.size_extract]; omega
  have e0 : bl (s.extract fr i) = [] := List.eq_nil_of_length_eq_zero (by rw [bl_len]; exact hz)
  obtain ⟨b1, b2⟩ := h.both hi hb
  rw [e0, nms_nil, List.append_nil] at b1 b2
  exact ⟨Nat.le_refl _, b1, b2, fun j h2 h3 => by omega, h.sound2 hb, h.long, by have := h.len; omega⟩
set_option maxRecDepth 20000 in
set_option maxHeartbeats 4000000 in
theorem refParse_any (s : ByteArray) (w : World) (hs : s.size ≤ 9223372036854775807) :
    Calls Try.prog 8 #[.string s] w fun e w' => ∃ v, e = .returned (.tuple #[v, .int .i64 (prE (bl s))]) ∧ OwnS w' w.heap.size v ((prL (bl s)).map mkT) ∧ Below w.heap.size w w' := by
  by_cases h0 : s.size = 0
  · have e := okL_no (s := s) (fun q => by omega)
    rw [prE_bad e, prL_bad e, nm_empty h0]
    go_enter Try.func8, Try.ntmps8
    go_wp2
    go_ret2
    exact ⟨_, rfl, OwnS.nil _ _, Below.refl _ _⟩
  have h3 := nm_list (s := s) (by omega)
  have hr0 : ∀ u : World, (Instr.index 9 (.string s) (.int .i64 0)).run Try.prog u = .ok (.int .u8 (byt s 0)) u := idx_str s 0 (by omega)
  by_cases h1 : byt s 0 = 47
  · by_cases h2 : s.size ≤ 1024
    · have HK : Hid ((∀ j, j < s.size → ¬ byt s j = 0) → okL (bl s) = true) := fun q => (okL_byt s).2 ⟨by omega, h1, h2, q⟩
      have HL : Hid ((∃ j, j < s.size ∧ byt s j = 0) → okL (bl s) = false) := fun ⟨j, hj, hq⟩ => okL_no fun z => z.2.2.2 j hj hq
      have HE4 : Hid (okL (bl s) = false → prE (bl s) = 4 ∧ prL (bl s) = []) := fun q => ⟨prE_bad q, prL_bad q⟩
      have HE12 : Hid (okL (bl s) = true → lnL (nms (bl s)) = true → prE (bl s) = 12 ∧ prL (bl s) = []) := fun q q2 => ⟨prE_long q q2, prL_long q q2⟩
      have HE0 : Hid (okL (bl s) = true → lnL (nms (bl s)) = false → prE (bl s) = 0 ∧ prL (bl s) = nms (bl s)) := fun q q2 => ⟨prE_ok q q2, prL_ok q q2⟩
      have HR0 : Hid _ := RefSt.start s
      rw [h1] at hr0
      generalize prE (bl s) = E at *
      generalize prL (bl s) = R at *
      have g1 : decide ((1024 : Int) < (s.size : Int)) = false := decide_eq_false (by omega)
      clear h1
      go_enter Try.func8, Try.ntmps8
      go_wp2
      clear hr0 h3 g1
      go_loopw [4, 5, 6, 7] (fun s4 s5 s6 s7 wx => ∃ (i fr : Nat) (lg : Bool) (acc : List (List UInt8)), i ≤ s.size + 1 ∧ s7 = .int .i64 i ∧ s5 = .int .i64 fr ∧ s6 = .bool lg ∧ Hid (OwnS wx w.heap.size s4 (acc.map mkT)) ∧ Hid (Below w.heap.size w wx) ∧ Hid (RefSt s acc fr i lg)) (fun _ _ _ s7 _ => s.size + 1 - (intOf s7).toNat)
      case atStart => exact ⟨0, 0, false, [], by omega, rfl, rfl, rfl, OwnS.nil _ _, Below.refl _ _, HR0.out⟩
      case round =>
        clear HR0
        obtain ⟨i, fr, lg, acc, hi0, rfl, rfl, rfl, HO, HB, HR⟩ := hrel
        have hfi : fr ≤ i := HR.out.le
        by_cases hi1 : (i : Int) ≤ (s.size : Int)
        · have hi : i ≤ s.size := by omega
          have gi1 : decide ((i : Int) ≤ (s.size : Int)) = true := decide_eq_true hi1
          by_cases hi2 : (i : Int) < (s.size : Int)
          · have hr := idx_str s i (by omega)
            have gi2 : ((i : Int) == (s.size : Int)) = false := beq_eq_false_iff_ne.2 (by omega)
            have gi3 : decide (i = s.size) = false := decide_eq_false (by omega)
            by_cases b0 : byt s i = 0
            · obtain ⟨rfl, rfl⟩ := HE4.out (HL.out ⟨i, by omega, b0⟩)
              rw [b0] at hr
              clear HO HR HK HL HE4 HE12 HE0 b0
              go_wp2
              go_ret2
              exact ⟨_, rfl, OwnS.nil _ _, HB.out⟩
            · have g0 : (byt s i == 0) = false := beq_eq_false_iff_ne.2 b0
              by_cases b1 : byt s i = 47
              · have HZ : Hid (byt s i = 47) := b1
                rw [b1] at hr
                clear b0 b1 g0
                have HBd : Hid (i < s.size → byt s i = 47) := fun _ => HZ.out
                by_cases hf : fr < i
                · have gf : decide ((fr : Int) < (i : Int)) = true := decide_eq_true (by omega)
                  have gf2 : decide (fr < i) = true := decide_eq_true hf
                  have hsl : ∀ u : World, (Instr.slice 9 (.string s) (some (.int .i64 (fr : Int))) (some (.int .i64 (i : Int))) none).run Try.prog u = .ok (.string (s.extract fr i)) u := fun u => by
                    have := run_slice_string (P := Try.prog) u 9 s .i64 .i64 (fr : Int) (i : Int) Try.underlying9 (by omega) (by omega) (by omega)
                    simpa using this
                  have hlen : 16 * ((acc.map mkT).length + 1) ≤ 140737488355328 := by rw [List.length_map]; have := HR.out.len; omega
                  have HA : Hid (acc.map mkT ++ [s.extract fr i] = (acc ++ [bl (s.extract fr i)]).map mkT) := map_push acc _
                  have hw : IntKind.i64.wrap ((i : Int) - (fr : Int)) = (i : Int) - (fr : Int) := by rw [IntKind.wrap_i64]; omega
                  have HN : Hid _ := HR.out.piece hi hf HBd.out
                  have hown := HO.out
                  have hbel := HB.out
                  generalize s.extract fr i = P at *
                  generalize acc.map mkT = am at *
                  clear HR HBd HO HB HZ HK HL HE4 HE12 HE0
                  by_cases h14 : 14 < i - fr
                  · have g14 : decide ((14 : Int) < (i : Int) - (fr : Int)) = true := decide_eq_true (by omega)
                    have HN2 : Hid (RefSt s (acc ++ [bl P]) (i + 1) (i + 1) true) := by
                      have h := HN.out
                      rw [show (lg || decide (14 < i - fr)) = true by simp [h14]] at h
                      exact h
                    cases lg
                    all_goals
                      go_wp2_with (at_builtin; refine wpList_pushW rfl (.tmp 49) (.tmp 54) rfl w.heap.size _ am P rfl rfl hown hlen hbel.size ?_; intro v' w4 hown' _ hb4)
                      rw [HA.out] at hown'
                      exact ⟨⟨i + 1, i + 1, true, _, by omega, by go_num, by go_num, rfl, hown', hbel.trans hb4, HN2.out⟩, by simp [intOf]; omega⟩
                  · have g14 : decide ((14 : Int) < (i : Int) - (fr : Int)) = false := decide_eq_false (by omega)
                    have HN2 : Hid (RefSt s (acc ++ [bl P]) (i + 1) (i + 1) lg) := by
                      have h := HN.out
                      rw [show (lg || decide (14 < i - fr)) = lg by simp [h14]] at h
                      exact h
                    cases lg
                    all_goals
                      go_wp2_with (at_builtin; refine wpList_pushW rfl (.tmp 49) (.tmp 54) rfl w.heap.size _ am P rfl rfl hown hlen hbel.size ?_; intro v' w4 hown' _ hb4)
                      rw [HA.out] at hown'
                      exact ⟨⟨i + 1, i + 1, _, _, by omega, by go_num, by go_num, rfl, hown', hbel.trans hb4, HN2.out⟩, by simp [intOf]; omega⟩
                · have e : fr = i := by omega
                  have gf : decide ((fr : Int) < (i : Int)) = false := decide_eq_false (by omega)
                  have gf2 : decide (fr < i) = false := decide_eq_false hf
                  have HN : Hid _ := HR.out.none hi e HBd.out
                  clear HR HBd e HZ HK HL HE4 HE12 HE0
                  go_wp2
                  exact ⟨⟨i + 1, i + 1, lg, _, by omega, by go_num, by go_num, rfl, HO.out, HB.out, HN.out⟩, by simp [intOf]; omega⟩
              · have g2 : (byt s i == 47) = false := beq_eq_false_iff_ne.2 b1
                have HN : Hid _ := HR.out.step (by omega) b0 b1
                generalize byt s i = x at hr b0 b1 g0 g2
                clear HR HK HL HE4 HE12 HE0
                go_wp2
                exact ⟨⟨i + 1, fr, lg, acc, by omega, by go_num, by go_num, rfl, HO.out, HB.out, HN.out⟩, by simp [intOf]; omega⟩
          · have ei : i = s.size := by omega
            have gi2 : ((i : Int) == (s.size : Int)) = true := beq_iff_eq.2 (by omega)
            have gi3 : decide (i = s.size) = true := decide_eq_true ei
            clear ei
            have HBd : Hid (i < s.size → byt s i = 47) := fun q => by omega
            by_cases hf : fr < i
            · have gf : decide ((fr : Int) < (i : Int)) = true := decide_eq_true (by omega)
              have gf2 : decide (fr < i) = true := decide_eq_true hf
              have hsl : ∀ u : World, (Instr.slice 9 (.string s) (some (.int .i64 (fr : Int))) (some (.int .i64 (i : Int))) none).run Try.prog u = .ok (.string (s.extract fr i)) u := fun u => by
                have := run_slice_string (P := Try.prog) u 9 s .i64 .i64 (fr : Int) (i : Int) Try.underlying9 (by omega) (by omega) (by omega)
                simpa using this
              have hlen : 16 * ((acc.map mkT).length + 1) ≤ 140737488355328 := by rw [List.length_map]; have := HR.out.len; omega
              have HA : Hid (acc.map mkT ++ [s.extract fr i] = (acc ++ [bl (s.extract fr i)]).map mkT) := map_push acc _
              have hw : IntKind.i64.wrap ((i : Int) - (fr : Int)) = (i : Int) - (fr : Int) := by rw [IntKind.wrap_i64]; omega
              have HN : Hid _ := HR.out.piece hi hf HBd.out
              have hown := HO.out
              have hbel := HB.out
              generalize s.extract fr i = P at *
              generalize acc.map mkT = am at *
              clear HR HBd HO HB HK HL HE4 HE12 HE0
              by_cases h14 : 14 < i - fr
              · have g14 : decide ((14 : Int) < (i : Int) - (fr : Int)) = true := decide_eq_true (by omega)
                have HN2 : Hid (RefSt s (acc ++ [bl P]) (i + 1) (i + 1) true) := by
                  have h := HN.out
                  rw [show (lg || decide (14 < i - fr)) = true by simp [h14]] at h
                  exact h
                cases lg
                all_goals
                  go_wp2_with (at_builtin; refine wpList_pushW rfl (.tmp 49) (.tmp 54) rfl w.heap.size _ am P rfl rfl hown hlen hbel.size ?_; intro v' w4 hown' _ hb4)
                  rw [HA.out] at hown'
                  exact ⟨⟨i + 1, i + 1, true, _, by omega, by go_num, by go_num, rfl, hown', hbel.trans hb4, HN2.out⟩, by simp [intOf]; omega⟩
              · have g14 : decide ((14 : Int) < (i : Int) - (fr : Int)) = false := decide_eq_false (by omega)
                have HN2 : Hid (RefSt s (acc ++ [bl P]) (i + 1) (i + 1) lg) := by
                  have h := HN.out
                  rw [show (lg || decide (14 < i - fr)) = lg by simp [h14]] at h
                  exact h
                cases lg
                all_goals
                  go_wp2_with (at_builtin; refine wpList_pushW rfl (.tmp 49) (.tmp 54) rfl w.heap.size _ am P rfl rfl hown hlen hbel.size ?_; intro v' w4 hown' _ hb4)
                  rw [HA.out] at hown'
                  exact ⟨⟨i + 1, i + 1, _, _, by omega, by go_num, by go_num, rfl, hown', hbel.trans hb4, HN2.out⟩, by simp [intOf]; omega⟩
            · have e : fr = i := by omega
              have gf : decide ((fr : Int) < (i : Int)) = false := decide_eq_false (by omega)
              have gf2 : decide (fr < i) = false := decide_eq_false hf
              have HN : Hid _ := HR.out.none hi e HBd.out
              clear HR HBd e HK HL HE4 HE12 HE0
              go_wp2
              exact ⟨⟨i + 1, i + 1, lg, _, by omega, by go_num, by go_num, rfl, HO.out, HB.out, HN.out⟩, by simp [intOf]; omega⟩
        · have ei : s.size < i := by omega
          have hk : okL (bl s) = true := HK.out fun j hj => HR.out.sound j (by omega) hj
          have hn := HR.out.fin ei
          have hlg := HR.out.long
          rw [← hn] at hlg
          have HO2 : Hid (OwnS wr w.heap.size u4 ((nms (bl s)).map mkT)) := by have := HO.out; rw [← hn] at this; exact this
          cases lg
          · obtain ⟨rfl, rfl⟩ := HE0.out hk hlg
            clear HO HR HK HL HE4 HE12 HE0 hk hn hlg
            go_wp2
            go_ret2
            exact ⟨_, rfl, HO2.out, HB.out⟩
          · obtain ⟨rfl, rfl⟩ := HE12.out hk hlg
            clear HO HR HK HL HE4 HE12 HE0 hk hn hlg HO2
            go_wp2
            go_ret2
            exact ⟨_, rfl, OwnS.nil _ _, HB.out⟩
    · have e := okL_no (s := s) (fun q => h2 q.2.2.1)
      rw [prE_bad e, prL_bad e]
      rw [h1] at hr0
      have g1 : decide ((1024 : Int) < (s.size : Int)) = true := decide_eq_true (by omega)
      clear h1 e
      go_enter Try.func8, Try.ntmps8
      go_wp2
      go_ret2
      exact ⟨_, rfl, OwnS.nil _ _, Below.refl _ _⟩
  · have e := okL_no (s := s) (fun q => h1 q.2.1)
    rw [prE_bad e, prL_bad e]
    have g0 : (byt s 0 == 47) = false := beq_eq_false_iff_ne.2 h1
    generalize byt s 0 = x at *
    clear e
    go_enter Try.func8, Try.ntmps8
    go_wp2
    go_ret2
    exact ⟨_, rfl, OwnS.nil _ _, Below.refl _ _⟩
end Go.Proofs.Ytadljgaadjajdaa
