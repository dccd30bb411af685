/- RouteBehind: paths one behind the other; no condition. -/
import Derived.Test.YtadljgaadjajdaaRt8
namespace Go.Proofs.Ytadljgaadjajdaa
open Go.RowKit Go.Maps
/-- A list is appended to a list that is owned. -/
theorem wpList_appS {ops : Array Oper} {rest : List Oper} {o : Oper} {a : Act} {W : World} {Q : Exit → Act → World → Prop} (hgd : o.guard = none) (s x : Operand)
    (ho : o.op = .call { callee := .builtin .append, args := #[s, x], argTypes := #[22, 22] }) (base base2 : Nat) (v u : Value) (xs ys : List ByteArray) (hs : a.eval s = v)
    (hx : a.eval x = u) (hown : OwnS W base v xs) (hu : OwnS W base2 u ys) (hn : 16 * (xs.length + ys.length) ≤ 140737488355328) (hbase : base ≤ W.heap.size)
    (h : ∀ v' w', OwnS w' base v' (xs ++ ys) → W.grownBy w' v.ownBlock → Below base W w' → wpList Try.prog ops Q rest (a.put o.dst v') w') :
    wpList Try.prog ops Q (o :: rest) a W := by
  obtain ⟨i0, hi0, hz0, hz1, hz2⟩ := info_parts info9
  have hu2 := hu
  rcases hu.2 with ⟨rfl, h0⟩ | ⟨g, cap, cur, rfl, _, hg, hc, _⟩
  · have e : ys = [] := List.eq_nil_of_length_eq_zero h0
    subst e
    refine wpList_append_own_none hgd s x 22 ho base 9 i0 1 Try.underlying22 hi0 v xs.length (xs.map Value.string) hs hown hx ?_
    refine h v W (by rw [List.append_nil]; exact hown) ⟨rfl, rfl, rfl, Nat.le_refl _, fun _ _ _ => rfl⟩ (Below.refl _ _)
  · refine wpList_append_own _ hgd s x 22 ho base 9 i0 (.string ⟨#[]⟩) 1 16 Try.underlying22 hi0 hz0 hz1 hz2 rfl (by decide) v xs.length (xs.map Value.string) hs hown ⟨g, 0, none⟩ ys.length cap (ys.map Value.string) hx (by simp) (fun j y hj => hu2.cells (g := g) rfl j y hj) (texts_one ys) (by unfold maxLen; omega) (by omega) hbase ?_
    intro v' w' hown' hgr _
    refine h v' w' ?_ hgr ((Below.refl _ _).grown hgr hbase fun k hk => (World.ownsRow.lt hown k hk).1)
    unfold OwnS
    rw [List.length_append, List.map_append]
    exact hown'
theorem spV_app (xs ys : List ByteArray) (h : ys ≠ []) : spV (xs ++ ys) = spV ys := by
  unfold spV
  rw [List.getLast?_append]
  cases hq : ys.getLast? with
  | none => exact absurd (List.getLast?_eq_none_iff.1 hq) h
  | some y => rfl
theorem behind_ok {a b : List UInt8} (ha : prE a = 0) (hb : prE b = 0) (hl : a.length + b.length ≤ 1024) : prE (a ++ b) = 0 ∧ prL (a ++ b) = nms a ++ nms b := by
  obtain ⟨a1, a2⟩ := prE_zero ha
  obtain ⟨b1, b2⟩ := prE_zero hb
  obtain ⟨ah, _, a0⟩ := (okL_iff a).1 a1
  obtain ⟨bh, _, b0⟩ := (okL_iff b).1 b1
  have e : nms (a ++ b) = nms a ++ nms b := by
    cases b with
    | nil => cases bh
    | cons c t =>
      simp at bh
      subst bh
      rw [nms_app, nms_stroke]
  have h1 : okL (a ++ b) = true := (okL_iff _).2 ⟨by rw [List.getElem?_append_left (List.getElem?_eq_some_iff.1 ah).1]; exact ah, by rw [List.length_append]; exact hl, fun q => by
    rcases List.mem_append.1 q with q | q
    · exact a0 q
    · exact b0 q⟩
  have h2 : lnL (nms (a ++ b)) = false := by
    rw [e]
    exact lnL_false fun p hp => by
      rcases List.mem_append.1 hp with hp | hp
      · exact lnL_short a2 p hp
      · exact lnL_short b2 p hp
  exact ⟨prE_ok h1 h2, by rw [prL_ok h1 h2, e]⟩
/-- Parse of a text, for a walk: the names in a list that is owned. -/
theorem parse_own (s : ByteArray) (E : Int) (R : List ByteArray) (hE : prE (bl s) = E) (hR : prL (bl s) = bls R) (hs : s.size ≤ 9223372036854775807) (w : World) :
    Calls Try.prog 7 #[.string s] w fun e w' => ∃ v, e = .returned (.tuple #[v, .int .i64 E]) ∧ OwnS w' w.heap.size v R ∧ Below w.heap.size w w' :=
  (parse_any s w hs).mono fun e w' ⟨v, he, hv, hb⟩ => by
    rw [hR, mk_bls] at hv
    exact ⟨v, by rw [he, hE], hv, hb⟩
/-- A list that is owned, read. -/
theorem OwnS.read {w : World} {B : Nat} {v : Value} {l : List ByteArray} (h : OwnS w B v l) : ∃ p c, v = .slice p l.length c ∧ TxAt w p l := by
  obtain ⟨p, c, h1, h2, _⟩ := OwnS.texts h
  exact ⟨p, c, h1, h2⟩
set_option maxRecDepth 20000 in
set_option maxHeartbeats 4000000 in
theorem behind_walk (s t : ByteArray) (hs : s.size ≤ 9223372036854775807) (ht : t.size ≤ 9223372036854775807) (w : World) :
    Calls Try.prog 6 #[.string s, .string t] w fun e w' => e = .returned (.bool true) ∧ Below w.heap.size w w' := by
  have HV : Hid _ := fun u => lives_any u
  by_cases hall : prE (bl s) = 0 ∧ prE (bl t) = 0 ∧ s.size + t.size ≤ 1024
  · obtain ⟨hE, hF, hl⟩ := hall
    obtain ⟨L, hL⟩ : ∃ L : List ByteArray, bls L = nms (bl s) := ⟨(nms (bl s)).map mkT, bls_mk _⟩
    obtain ⟨M, hM⟩ : ∃ M : List ByteArray, bls M = nms (bl t) := ⟨(nms (bl t)).map mkT, bls_mk _⟩
    have hB := behind_ok hE hF (by rw [bl_len, bl_len]; exact hl)
    rw [← bl_app, ← hL, ← hM, show bls L ++ bls M = bls (L ++ M) by unfold bls; rw [List.map_append]] at hB
    have hL2 : L.length ≤ 1025 := by have := nms_len (bl s); rw [← hL, bls_len, bl_len] at this; omega
    have hM2 : M.length ≤ 1025 := by have := nms_len (bl t); rw [← hM, bls_len, bl_len] at this; omega
    have HQ1 : Hid _ := fun u => parse_own s 0 L hE (by rw [prL_zero hE, hL]) hs u
    have HQ2 : Hid _ := fun u => parse_own t 0 M hF (by rw [prL_zero hF, hM]) ht u
    have HQ3 : Hid _ := fun u => parse_own (s ++ t) 0 (L ++ M) hB.1 hB.2 (by rw [ByteArray.size_append]; omega) u
    have hadd := add_str s t (by omega)
    have gl : decide ((1024 : Int) < (s.size : Int) + (t.size : Int)) = false := decide_eq_false (by omega)
    have hw : IntKind.i64.wrap ((s.size : Int) + (t.size : Int)) = (s.size : Int) + (t.size : Int) := by rw [IntKind.wrap_i64]; omega
    have HSp : Hid (M ≠ [] → spV (L ++ M) = spV M) := spV_app L M
    have HSm : Hid (∀ (u : World) (q q' : Option Addr) (d d' : Nat), TxAt u q (L ++ M) → TxAt u q' (L ++ M) → Calls Try.prog 12 #[.slice q (L ++ M).length d, .slice q' (L ++ M).length d'] u fun e w' => e = .returned (.bool true) ∧ Below u.heap.size u w') := fun u q q' d d' h1 h2 => same_known d d' _ _ h1 h2 rfl rfl (by rw [List.length_append]; omega) true (by simp)
    have HP1 : Hid (∀ (u : World) (q : Option Addr) (d : Nat), TxAt u q (L ++ M) → Calls Try.prog 11 #[.slice q (L ++ M).length d] u fun e w' => e = .returned (.bool (spV (L ++ M))) ∧ w' = u) := fun u q d h1 => special_known d _ h1 rfl (by rw [List.length_append]; omega) _ rfl
    have HP2 : Hid (∀ (u : World) (q : Option Addr) (d : Nat), TxAt u q M → Calls Try.prog 11 #[.slice q M.length d] u fun e w' => e = .returned (.bool (spV M)) ∧ w' = u) := fun u q d h1 => special_known d _ h1 rfl (by omega) _ rfl
    have HLM : Hid (L.length ≤ 1025 ∧ M.length ≤ 1025) := ⟨hL2, hM2⟩
    clear hB hL hM hE hF hL2 hM2
    generalize s ++ t = S at *
    obtain ⟨N, hN⟩ : ∃ N, (L ++ M).length = N := ⟨_, rfl⟩
    obtain ⟨m, hm⟩ : ∃ m, M.length = m := ⟨_, rfl⟩
    rw [hN] at HSm HP1
    rw [hm] at HP2
    have HN : Hid ((L ++ M).length = N) := hN
    have Hm : Hid (M.length = m) := hm
    clear hN hm
    go_enter Try.func6, Try.ntmps6
    go_wp2_with (first | (go_at_call 17; fail))
    refine (HV.out _).mono ?_
    rintro e w1 ⟨rfl, hb⟩
    have HB1 : Hid _ := hb
    clear hb HV
    go_wp2_with (first | (go_at_call 7; fail))
    refine (HQ1.out _).mono ?_
    rintro e w2 ⟨v1, rfl, ho, hb⟩
    have HB2 : Hid _ := below_next HB1.out hb
    have HO2 : Hid (OwnS w2 w1.heap.size v1 L) := ho
    clear hb HQ1 HB1 ho
    go_wp2_with (first | (go_at_call 7; fail))
    refine (HQ2.out _).mono ?_
    rintro e w3 ⟨v2, rfl, ho, hb⟩
    have HB3 : Hid _ := below_next HB2.out hb
    have HO3 : Hid (OwnS w3 w1.heap.size v1 L) := OwnS.later HO2.out hb
    have HU3 : Hid (OwnS w3 w2.heap.size v2 M) := ho
    clear hb HQ2 HB2 HO2 ho
    go_wp2_with (first | (go_at_call 7; fail))
    refine (HQ3.out _).mono ?_
    rintro e w4 ⟨v3, rfl, ho, hb⟩
    have HB4 : Hid _ := below_next HB3.out hb
    have HO4 : Hid (OwnS w4 w1.heap.size v1 L) := OwnS.later HO3.out hb
    have HU4 : Hid (OwnS w4 w2.heap.size v2 M) := OwnS.later HU3.out hb
    have HW4 : Hid (OwnS w4 w3.heap.size v3 (L ++ M)) := ho
    clear hb HQ3 HB3 HO3 HU3 ho hadd gl hw
    go_upto_region 9 with fail
    have a1 : 16 * (([] : List ByteArray).length + L.length) ≤ 140737488355328 := by have := HLM.out.1; simp; omega
    have o4 := HO4.out
    go_upto_region 10 with (at_builtin; refine wpList_appS rfl _ _ rfl w4.heap.size w1.heap.size (.slice none 0 0) v1 [] L rfl rfl (OwnS.nil _ _) o4 a1 (Nat.le_refl _) ?_; intro vB w5 hB5 _ hb5)
    have hB5' : OwnS w5 w4.heap.size vB L := hB5
    have HB5 : Hid _ := below_next HB4.out hb5
    have u5 : OwnS w5 w2.heap.size v2 M := OwnS.later HU4.out hb5
    have HW5 : Hid (OwnS w5 w3.heap.size v3 (L ++ M)) := OwnS.later HW4.out hb5
    have HSz : Hid (w4.heap.size ≤ w5.heap.size) := hb5.size
    have a2 : 16 * (L.length + M.length) ≤ 140737488355328 := by have := HLM.out; omega
    have hsz := HSz.out
    have HV2 : Hid (∀ k, v2.ownBlock = some k → k < w4.heap.size) := fun k hk => (World.ownsRow.lt HU4.out k hk).2
    have HV3 : Hid (∀ k, v3.ownBlock = some k → k < w4.heap.size) := fun k hk => (World.ownsRow.lt HW4.out k hk).2
    have HS4 : Hid (w.heap.size ≤ w4.heap.size) := HB4.out.size
    clear hB5 hb5 HB4 HO4 HU4 HW4 o4 a1
    go_upto_region 11 with (at_builtin; refine wpList_appS rfl _ _ rfl w4.heap.size w2.heap.size vB v2 L M rfl rfl hB5' u5 a2 hsz ?_; intro vC w6 hC6 hgr hb6)
    have hvB : ∀ k, vB.ownBlock = some k → w4.heap.size ≤ k := fun k hk => (World.ownsRow.lt hB5' k hk).1
    have u6 : OwnS w6 w2.heap.size v2 M := own_frame u5 (Fr.ofGrown hgr) fun k hk q => by
      have h1 := HV2.out k hk
      have h2 := hvB k q
      omega
    have x6 : OwnS w6 w3.heap.size v3 (L ++ M) := own_frame HW5.out (Fr.ofGrown hgr) fun k hk q => by
      have h1 := HV3.out k hk
      have h2 := hvB k q
      omega
    have HB6 : Hid (Below w.heap.size w w6) := HB5.out.trans (hb6.mono HS4.out)
    obtain ⟨p2, c2, rfl, t2⟩ := OwnS.read u6
    obtain ⟨p3, c3, rfl, t3⟩ := OwnS.read x6
    obtain ⟨pC, cC, rfl, tC⟩ := OwnS.read hC6
    have T2 : Hid (TxAt w6 p2 M) := t2
    have T3 : Hid (TxAt w6 p3 (L ++ M)) := t3
    have TC : Hid (TxAt w6 pC (L ++ M)) := tC
    rw [HN.out, Hm.out]
    clear hvB u6 x6 t2 t3 tC hC6 hgr hb6 hB5' u5 a2 hsz HSz HW5 HB5 HV2 HV3 HS4
    by_cases h0 : m = 0
    · have g0 : decide ((0 : Int) < (m : Int)) = false := decide_eq_false (by omega)
      have g1 : decide (0 < m) = false := decide_eq_false (by omega)
      clear HP1 HP2 HSp
      go_wp2_with (first | (go_at_call 12; fail))
      refine (HSm.out _ _ _ _ _ T3.out TC.out).mono ?_
      rintro e w7 ⟨rfl, hb⟩
      have HB7 : Hid _ := below_next HB6.out hb
      clear hb HSm T2 T3 TC HB6
      go_wp2
      go_ret
      exact ⟨rfl, HB7.out⟩
    · have g0 : decide ((0 : Int) < (m : Int)) = true := decide_eq_true (by omega)
      have g1 : decide (0 < m) = true := decide_eq_true (by omega)
      have hsp := HSp.out (fun q => h0 (by rw [← Hm.out, q]; rfl))
      rw [hsp] at HP1
      generalize spV M = B at *
      clear hsp HSp
      go_wp2_with (first | (go_at_call 11; fail))
      refine (HP1.out _ _ _ TC.out).mono ?_
      rintro e w7 ⟨rfl, hw⟩
      subst hw
      clear HP1
      go_wp2_with (first | (go_at_call 11; fail))
      refine (HP2.out _ _ _ T2.out).mono ?_
      rintro e w8 ⟨rfl, hw⟩
      subst hw
      clear HP2
      have gB : (B == B) = true := by simp
      have gB2 : (B != B) = false := by simp
      go_wp2_with (first | (go_at_call 12; fail))
      refine (HSm.out _ _ _ _ _ T3.out TC.out).mono ?_
      rintro e w9 ⟨rfl, hb⟩
      have HB7 : Hid _ := below_next HB6.out hb
      clear hb HSm T2 T3 TC HB6
      go_wp2
      go_ret
      exact ⟨rfl, HB7.out⟩
  · have HQ1 : Hid _ := fun u => parse_any s u hs
    have HQ2 : Hid _ := fun u => parse_any t u ht
    have hw : prE (bl s) = 0 → prE (bl t) = 0 → IntKind.i64.wrap ((s.size : Int) + (t.size : Int)) = (s.size : Int) + (t.size : Int) := fun h1 h2 => by
      have a := ((okL_iff _).1 (prE_zero h1).1).2.1
      have b := ((okL_iff _).1 (prE_zero h2).1).2.1
      rw [bl_len] at a b
      rw [IntKind.wrap_i64]
      omega
    generalize prE (bl s) = E at *
    generalize prE (bl t) = F at *
    generalize prL (bl s) = L at *
    generalize prL (bl t) = M at *
    have HALL : Hid (¬ (E = 0 ∧ F = 0 ∧ s.size + t.size ≤ 1024)) := hall
    have HW : Hid (E = 0 → F = 0 → IntKind.i64.wrap ((s.size : Int) + (t.size : Int)) = (s.size : Int) + (t.size : Int)) := hw
    clear hall hw
    go_enter Try.func6, Try.ntmps6
    go_wp2_with (first | (go_at_call 17; fail))
    refine (HV.out _).mono ?_
    rintro e w1 ⟨rfl, hb⟩
    have HB1 : Hid _ := hb
    clear hb HV
    go_wp2_with (first | (go_at_call 7; fail))
    refine (HQ1.out _).mono ?_
    rintro e w2 ⟨v1, rfl, _, hb⟩
    have HB2 : Hid _ := below_next HB1.out hb
    clear hb HQ1 HB1
    go_wp2_with (first | (go_at_call 7; fail))
    refine (HQ2.out _).mono ?_
    rintro e w3 ⟨v2, rfl, _, hb⟩
    have HB3 : Hid _ := below_next HB2.out hb
    clear hb HQ2 HB2
    by_cases hE : E = 0
    · subst hE
      by_cases hF : F = 0
      · subst hF
        have e3 := HW.out rfl rfl
        have e4 : decide ((1024 : Int) < (s.size : Int) + (t.size : Int)) = true := decide_eq_true (by
          have := HALL.out
          omega)
        have e5 : decide (1024 < s.size + t.size) = true := decide_eq_true (by
          have := HALL.out
          omega)
        clear HW HALL
        go_wp2
        go_ret
        exact ⟨rfl, HB3.out⟩
      · have e2 : (F == 0) = false := beq_eq_false_iff_ne.2 hF
        clear HW HALL
        go_wp2
        go_ret
        exact ⟨rfl, HB3.out⟩
    · have e1 : (E == 0) = false := beq_eq_false_iff_ne.2 hE
      clear HW HALL
      go_wp2
      go_ret
      exact ⟨rfl, HB3.out⟩
end Go.Proofs.Ytadljgaadjajdaa
