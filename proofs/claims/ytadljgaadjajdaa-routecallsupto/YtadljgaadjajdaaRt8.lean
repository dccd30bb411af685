/- RouteBack: there and back; no condition. -/
import Derived.Test.YtadljgaadjajdaaRt7
namespace Go.Proofs.Ytadljgaadjajdaa
open Go.RowKit Go.Maps
theorem lnL_false {L : List (List UInt8)} (h : ∀ p ∈ L, p.length ≤ 14) : lnL L = false := by
  unfold lnL
  rw [List.any_eq_false]
  intro p hp
  have := h p hp
  simp
  omega
theorem lnL_short {L : List (List UInt8)} (h : lnL L = false) : ∀ p ∈ L, p.length ≤ 14 := fun p hp => by
  unfold lnL at h
  rw [List.any_eq_false] at h
  have := h p hp
  simp at this
  omega
theorem mem_jl {L : List (List UInt8)} {c : UInt8} (h : c ∈ jl L) : c = 47 ∨ ∃ p ∈ L, c ∈ p := by
  unfold jl at h
  obtain ⟨p, hp, hc⟩ := List.mem_flatMap.1 h
  rcases List.mem_cons.1 hc with hc | hc
  · exact .inl hc
  · exact .inr ⟨p, hp, hc⟩
theorem joinP_head (L : List (List UInt8)) : (joinP L)[0]? = some 47 := by
  unfold joinP
  split
  · rfl
  · rename_i h
    cases L with
    | nil => exact absurd rfl h
    | cons p t => rw [jl_cons]; rfl
theorem mem_joinP {L : List (List UInt8)} {c : UInt8} (h : c ∈ joinP L) : c = 47 ∨ ∃ p ∈ L, c ∈ p := by
  unfold joinP at h
  split at h
  · exact .inl (by simpa using h)
  · exact mem_jl h
theorem joinP_len (L : List (List UInt8)) : (joinP L).length ≤ max 1 (jl L).length := by
  unfold joinP
  split
  · simp; omega
  · omega
/-- Names that may be are what Parse of their path tells. -/
theorem join_ok {L : List (List UInt8)} (h : ∀ p ∈ L, (p ≠ [] ∧ p.length ≤ 14) ∧ ∀ c ∈ p, c ≠ 47 ∧ c ≠ 0) (hl : (joinP L).length ≤ 1024) : prE (joinP L) = 0 ∧ prL (joinP L) = L := by
  have e : nms (joinP L) = L := nms_joinP fun p hp => ⟨(h p hp).1.1, fun c hc => ((h p hp).2 c hc).1⟩
  have h1 : okL (joinP L) = true := (okL_iff _).2 ⟨joinP_head L, hl, fun q => by
    rcases mem_joinP q with z | ⟨p, hp, hc⟩
    · cases z
    · exact ((h p hp).2 0 hc).2 rfl⟩
  have h2 : lnL (nms (joinP L)) = false := by rw [e]; exact lnL_false fun p hp => (h p hp).1.2
  exact ⟨prE_ok h1 h2, by rw [prL_ok h1 h2, e]⟩
theorem join_end {L : List (List UInt8)} (h : ∀ p ∈ L, (p ≠ [] ∧ p.length ≤ 14) ∧ ∀ c ∈ p, c ≠ 47 ∧ c ≠ 0) (hl : (joinP L).length < 1024) : prE (joinP L ++ [47]) = 0 ∧ prL (joinP L ++ [47]) = L := by
  have e : nms (joinP L ++ [47]) = L := by rw [nms_end]; exact nms_joinP fun p hp => ⟨(h p hp).1.1, fun c hc => ((h p hp).2 c hc).1⟩
  have hd := joinP_head L
  have h1 : okL (joinP L ++ [47]) = true := (okL_iff _).2 ⟨by rw [List.getElem?_append_left (List.getElem?_eq_some_iff.1 hd).1]; exact hd, by rw [List.length_append, List.length_singleton]; omega, fun q => by
    rcases List.mem_append.1 q with q | q
    · rcases mem_joinP q with z | ⟨p, hp, hc⟩
      · cases z
      · exact ((h p hp).2 0 hc).2 rfl
    · simp at q⟩
  have h2 : lnL (nms (joinP L ++ [47])) = false := by rw [e]; exact lnL_false fun p hp => (h p hp).1.2
  exact ⟨prE_ok h1 h2, by rw [prL_ok h1 h2, e]⟩
theorem join_long {L : List (List UInt8)} (hl : 1024 < (joinP L).length) : prE (joinP L) = 4 := prE_bad (ok_long hl)
/-- What Parse tells may be. -/
theorem names_ok {l : List UInt8} (h : prE l = 0) : ∀ p ∈ nms l, (p ≠ [] ∧ p.length ≤ 14) ∧ ∀ c ∈ p, c ≠ 47 ∧ c ≠ 0 := fun p hp => by
  obtain ⟨h1, h2⟩ := prE_zero h
  obtain ⟨m1, m2⟩ := nms_mem hp
  refine ⟨⟨m1, lnL_short h2 p hp⟩, fun c hc => ⟨(m2 c hc).1, fun q => ?_⟩⟩
  rw [q] at hc
  exact ((okL_iff l).1 h1).2.2 (m2 0 hc).2
theorem jl_le {l : List UInt8} (h : prE l = 0) : (jl (nms l)).length ≤ 1024 := by
  obtain ⟨h1, _⟩ := prE_zero h
  obtain ⟨a, b, _⟩ := (okL_iff l).1 h1
  cases l with
  | nil => cases a
  | cons c t =>
    simp at a
    subst a
    have := jl_len_nms t
    rw [List.length_cons] at b
    omega
theorem joinP_le {l : List UInt8} (h : prE l = 0) : (joinP (nms l)).length ≤ 1024 := by
  have h1 := joinP_len (nms l)
  have h2 := jl_le h
  omega
theorem prL_zero {l : List UInt8} (h : prE l = 0) : prL l = nms l := by
  obtain ⟨h1, h2⟩ := prE_zero h
  exact prL_ok h1 h2
theorem prL_none {l : List UInt8} (h : ¬ prE l = 0) : prL l = [] := by
  by_cases a : okL l = true
  · by_cases b : lnL (nms l) = true
    · exact prL_long a b
    · exact absurd (prE_ok a (by simpa using b)) h
  · exact prL_bad (by simpa using a)
theorem prE_stroke {l : List UInt8} (h : prE l = 0) (hl : l.length < 1024) : prE (47 :: l) = 0 ∧ prL (47 :: l) = nms l := by
  obtain ⟨h1, h2⟩ := prE_zero h
  obtain ⟨a, b, c⟩ := (okL_iff l).1 h1
  have h3 : okL (47 :: l) = true := (okL_iff _).2 ⟨rfl, by rw [List.length_cons]; omega, fun q => by
    rcases List.mem_cons.1 q with q | q
    · cases q
    · exact c q⟩
  have h4 : lnL (nms (47 :: l)) = false := by rw [nms_stroke]; exact h2
  exact ⟨prE_ok h3 h4, by rw [prL_ok h3 h4, nms_stroke]⟩
theorem plV_iff (s : ByteArray) : plV s = true ↔ (bl s ≠ [] ∧ (bl s).length ≤ 14) ∧ ∀ c ∈ bl s, c ≠ 47 ∧ c ≠ 0 := by
  unfold plV
  simp only [Bool.and_eq_true, Bool.not_eq_true', decide_eq_true_eq, bl_len]
  constructor
  · rintro ⟨⟨h1, h2⟩, h3⟩
    refine ⟨⟨fun q => ?_, h3⟩, fun c hc => ?_⟩
    · have := bl_len s
      rw [q] at this
      simp at this
      omega
    · obtain ⟨i, hi⟩ := List.getElem?_of_mem hc
      have := oddB_false h1 i (List.getElem?_eq_some_iff.1 hi).1
      exact ⟨fun q => this.2 ((byt_stroke hi).2 q), fun q => this.1 ((byt_nought hi).2 q)⟩
  · rintro ⟨⟨h1, h2⟩, h3⟩
    refine ⟨⟨?_, ?_⟩, h2⟩
    · cases e : oddB s s.size with
      | false => rfl
      | true =>
        unfold oddB at e
        rw [List.any_eq_true] at e
        obtain ⟨i, hi, hb⟩ := e
        have g := bl_get s i (List.mem_range.1 hi)
        have m := h3 _ (List.mem_of_getElem? g)
        simp at hb
        rcases hb with hb | hb
        · exact absurd ((byt_nought g).1 hb) m.2
        · exact absurd ((byt_stroke g).1 hb) m.1
    · have : (bl s).length ≠ 0 := fun q => h1 (List.eq_nil_of_length_eq_zero q)
      rw [bl_len] at this
      omega
theorem jl_few (L : List (List UInt8)) (h : ∀ p ∈ L, p.length ≤ 14) : (jl L).length ≤ 15 * L.length := by
  induction L with
  | nil => simp [jl]
  | cons p t ih =>
    have h1 := ih fun q hq => h q (by simp [hq])
    have h2 := h p (by simp)
    rw [jl_cons, List.length_cons, List.length_append, List.length_cons]
    omega
/-- Parse of a text, for a walk: the names in a list of their own. -/
theorem parse_at (s : ByteArray) (E : Int) (R : List ByteArray) (hE : prE (bl s) = E) (hR : prL (bl s) = bls R) (hs : s.size ≤ 9223372036854775807) (w : World) :
    Calls Try.prog 7 #[.string s] w fun e w' => ∃ p c, e = .returned (.tuple #[.slice p R.length c, .int .i64 E]) ∧ TxAt w' p R ∧ Below w.heap.size w w' :=
  (parse_known s E R R.length rfl hE hR hs w).mono fun _ _ ⟨p, c, h1, h2, _, h4⟩ => ⟨p, c, h1, h2, h4⟩
set_option maxRecDepth 20000 in
set_option maxHeartbeats 4000000 in
theorem back_walk (s : ByteArray) (hs : s.size ≤ 9223372036854775807) (l : List ByteArray) (p : Option Addr) (n c : Nat) (hn : l.length = n) (w : World) (hl : n ≤ 9223372036854775807) (hls : ∀ x ∈ l, x.size ≤ 9223372036854775807) (h : TxAt w p l) :
    Calls Try.prog 4 #[.string s, .slice p n c] w fun e w' => e = .returned (.bool true) ∧ Below w.heap.size w w' := by
  have HLn : Hid (l.length = n) := hn
  have HLs : Hid (∀ x ∈ l, x.size ≤ 9223372036854775807) := hls
  have HT : Hid (TxAt w p l) := h
  clear hn hls h
  have HV : Hid _ := fun u => lives_any u
  by_cases h300 : 300 < n
  · have g0 : decide ((300 : Int) < (n : Int)) = true := decide_eq_true (by omega)
    go_enter Try.func4, Try.ntmps4
    go_wp2_with (first | (go_at_call 17; fail))
    refine (HV.out _).mono ?_
    rintro e w1 ⟨rfl, hb⟩
    have HB1 : Hid _ := hb
    clear hb
    go_wp2
    go_ret
    exact ⟨rfl, HB1.out⟩
  have g0 : decide ((300 : Int) < (n : Int)) = false := decide_eq_false (by omega)
  by_cases hE : prE (bl s) = 0
  · obtain ⟨L, hL⟩ : ∃ L : List ByteArray, bls L = nms (bl s) := ⟨(nms (bl s)).map mkT, bls_mk _⟩
    have hM : prL (bl s) = bls L := by rw [prL_zero hE, hL]
    have h1024 : s.size ≤ 1024 := ((okL_iff _).1 (prE_zero hE).1).2.1
    have HQ1 : Hid _ := fun u => parse_at s 0 L hE hM hs u
    have hLn : L.length ≤ 1025 := by have := nms_len (bl s); rw [← hL, bls_len, bl_len] at this; omega
    have hjl := jl_le hE
    rw [← hL] at hjl
    have hjp := joinP_le hE
    rw [← hL] at hjp
    have hjo := join_ok (L := bls L) (by rw [hL]; exact names_ok hE) hjp
    have HPl : Hid (∀ x ∈ L, plV x = true ∧ x.size ≤ 14) := fun x hx => by
      have := names_ok hE (bl x) (by rw [← hL]; exact List.mem_map.2 ⟨x, hx, rfl⟩)
      exact ⟨(plV_iff x).2 this, this.1.2⟩
    have hst : Hid (s.size < 1024 → prE (bl ((⟨#[47]⟩ : ByteArray) ++ s)) = 0 ∧ prL (bl ((⟨#[47]⟩ : ByteArray) ++ s)) = bls L) := fun q => by
      rw [bl_app, hL]
      exact prE_stroke hE q
    have HJ : Hid _ := fun (u : World) (q : Option Addr) (d : Nat) (hu : TxAt u q L) => join_any L q d u (by omega) hu (by omega)
    have HQ2 : Hid _ := fun u => parse_at (jnT L) 0 L hjo.1 hjo.2 (by show (joinP (bls L)).length ≤ _; omega) u
    have hadd1 := add_str ⟨#[47]⟩ s (by have : (⟨#[47]⟩ : ByteArray).size = 1 := rfl; omega)
    have hzz1 : ((⟨#[47]⟩ : ByteArray) ++ s).size ≤ 9223372036854775807 := by rw [ByteArray.size_append]; have : (⟨#[47]⟩ : ByteArray).size = 1 := rfl; omega
    have HSm : Hid (∀ (u : World) (q q' : Option Addr) (d d' : Nat), TxAt u q L → TxAt u q' L → Calls Try.prog 12 #[.slice q L.length d, .slice q' L.length d'] u fun e w' => e = .returned (.bool true) ∧ Below u.heap.size u w') := fun u q q' d d' h1 h2 => same_known d d' L.length L.length h1 h2 rfl rfl (by omega) true (by simp)
    clear hjo hjp hjl hM hL hE
    generalize jnT L = J1 at *
    generalize (⟨#[47]⟩ : ByteArray) ++ s = S1 at *
    obtain ⟨m, hm⟩ : ∃ m, L.length = m := ⟨_, rfl⟩
    have HLm : Hid (L.length = m) := hm
    rw [hm] at HQ1 HQ2 HJ HSm hLn
    clear hm
    go_enter Try.func4, Try.ntmps4
    go_wp2_with (first | (go_at_call 17; fail))
    refine (HV.out _).mono ?_
    rintro e w1 ⟨rfl, hb⟩
    have HB1 : Hid _ := hb
    clear hb HV
    go_wp2_with (first | (go_at_call 7; fail))
    refine (HQ1.out _).mono ?_
    rintro e w2 ⟨p1, c1, rfl, ht, hb⟩
    have HB2 : Hid _ := below_next HB1.out hb
    have HT2 : Hid (TxAt w2 p1 L) := ht
    clear hb HQ1 HB1 ht
    go_wp2_with (first | (go_at_call 10; fail))
    refine (HJ.out _ _ _ HT2.out).mono ?_
    rintro e w3 ⟨rfl, hb⟩
    have HB3 : Hid _ := below_next HB2.out hb
    have HT3 : Hid (TxAt w3 p1 L) := TxAt.later HT2.out hb
    clear hb HJ HB2 HT2
    go_wp2_with (first | (go_at_call 7; fail))
    refine (HQ2.out _).mono ?_
    rintro e w4 ⟨p2, c2, rfl, ht, hb⟩
    have HB4 : Hid _ := below_next HB3.out hb
    have HT4 : Hid (TxAt w4 p1 L) := TxAt.later HT3.out hb
    have HU4 : Hid (TxAt w4 p2 L) := ht
    clear hb HQ2 HB3 HT3 ht
    go_wp2_with (first | (go_at_call 12; fail))
    refine (HSm.out _ _ _ _ _ HT4.out HU4.out).mono ?_
    rintro e w5 ⟨rfl, hb⟩
    have HB5 : Hid _ := below_next HB4.out hb
    have HT5 : Hid (TxAt w5 p1 L) := TxAt.later HT4.out hb
    clear hb HB4 HT4 HU4
    go_wp2
    go_loopw [9] (fun s9 wx => wx = w5 ∧ ∃ k : Nat, k ≤ m ∧ s9 = .int .i64 k) (fun s9 _ => m - (intOf s9).toNat)
    case atStart => exact ⟨rfl, 0, by omega, rfl⟩
    case round =>
      obtain ⟨rfl, k, hk, rfl⟩ := hrel
      by_cases hk2 : (k : Int) < (m : Int)
      · have hkl : k < L.length := by rw [HLm.out]; omega
        have hx : L[k]? = some L[k] := List.getElem?_eq_getElem hkl
        obtain ⟨hp, hx14⟩ := HPl.out L[k] (List.getElem_mem hkl)
        generalize L[k] = x at *
        obtain ⟨b, off, rfl, hbl, hcs⟩ := HT5.out (by omega)
        have hc : wr.cell? ⟨b, off + k, none⟩ = some (.string x) := hcs k x hx
        have HPx : Hid _ := plain_any x wr (by omega)
        rw [hp] at HPx
        clear hcs hx hp
        go_wp2_with (first | (go_at_call 19; fail))
        refine Calls.mono HPx.out ?_
        rintro e W1 ⟨rfl, hw⟩
        subst hw
        clear HPx
        go_wp2
        exact ⟨⟨trivial, k + 1, by omega, by go_num⟩, by simp [intOf]; omega⟩
      · clear HPl
        by_cases hfl : s.size < 1024
        · obtain ⟨hE1, hL1⟩ := hst.out hfl
          have g1 : decide ((s.size : Int) < (1024 : Int)) = true := decide_eq_true (by omega)
          have HQ3 : Hid _ := fun u => parse_at S1 0 L hE1 hL1 hzz1 u
          rw [HLm.out] at HQ3
          clear hE1 hL1 hst
          go_wp2_with (first | (go_at_call 7; fail))
          refine (HQ3.out _).mono ?_
          rintro e w6 ⟨p3, c3, rfl, ht, hb⟩
          have HB6 : Hid _ := below_next HB5.out hb
          have HT6 : Hid (TxAt w6 p1 L) := TxAt.later HT5.out hb
          have HU6 : Hid (TxAt w6 p3 L) := ht
          clear hb HQ3 HB5 HT5 ht
          go_wp2_with (first | (go_at_call 12; fail))
          refine (HSm.out _ _ _ _ _ HT6.out HU6.out).mono ?_
          rintro e w7 ⟨rfl, hb⟩
          have HBT : Hid _ := below_next HB6.out hb
          clear hb HB6 HT6 HU6 HSm hk hk2 hadd1 hzz1
          go_wp2
          go_loopw [12] (fun s12 wx => ∃ k : Nat, k ≤ n ∧ s12 = .int .i64 k ∧ Hid (Below w.heap.size w wx) ∧ Hid (∀ j, j < k → ∀ x, l[j]? = some x → plV x = true)) (fun s12 _ => n - (intOf s12).toNat)
          case atStart => exact ⟨0, by omega, rfl, HBT.out, fun j hj => absurd hj (Nat.not_lt_zero j)⟩
          case round =>
            clear HBT
            obtain ⟨k, hk, rfl, HB, HP⟩ := hrel
            by_cases hk2 : (k : Int) < (n : Int)
            · have hkl : k < l.length := by rw [HLn.out]; omega
              have hx : l[k]? = some l[k] := List.getElem?_eq_getElem hkl
              have hxs := HLs.out l[k] (List.getElem_mem hkl)
              generalize l[k] = x at *
              obtain ⟨b, off, rfl, hbl, hcs⟩ := HT.out (by omega)
              have hc : wr.cell? ⟨b, off + k, none⟩ = some (.string x) := (HB.out.cell (p := ⟨b, off + k, none⟩) hbl).trans (hcs k x hx)
              have HPx : Hid _ := plain_any x wr hxs
              have HX : Hid (l[k]? = some x) := hx
              clear hcs hx hxs
              go_wp2_with (first | (go_at_call 19; fail))
              refine Calls.mono HPx.out ?_
              rintro e W1 ⟨rfl, hw⟩
              subst hw
              by_cases hp : plV x = true
              · have HP2 : Hid (∀ j, j < k + 1 → ∀ y, l[j]? = some y → plV y = true) := fun j hj y hy => by
                  by_cases e : j = k
                  · subst e
                    rw [HX.out] at hy
                    injection hy with hy
                    rw [← hy]
                    exact hp
                  · exact HP.out j (by omega) y hy
                clear HPx HP
                rw [hp]
                go_wp2
                exact ⟨⟨k + 1, by omega, by go_num, HB.out, HP2.out⟩, by simp [intOf]; omega⟩
              · have hp2 : plV x = false := by simpa using hp
                clear HPx HP hp
                rw [hp2]
                go_wp2
                go_ret
                exact ⟨rfl, HB.out⟩
            · have e : k = n := by omega
              have HA : Hid (∀ p ∈ bls l, (p ≠ [] ∧ p.length ≤ 14) ∧ ∀ c ∈ p, c ≠ 47 ∧ c ≠ 0) := fun p hp => by
                obtain ⟨x, hx, rfl⟩ := List.mem_map.1 hp
                obtain ⟨j, hj⟩ := List.getElem?_of_mem hx
                have hjl := (List.getElem?_eq_some_iff.1 hj).1
                rw [HLn.out] at hjl
                exact (plV_iff x).1 (HP.out j (by omega) x hj)
              have HT2 : Hid (TxAt wr p l) := TxAt.later HT.out HB.out
              have hfew : (jl (bls l)).length ≤ 4500 := by
                have := jl_few (bls l) fun p hp => (HA.out p hp).1.2
                rw [bls_len, HLn.out] at this
                omega
              have HJ : Hid (∀ u, TxAt u p l → Calls Try.prog 10 #[.slice p n c] u fun e w' => e = .returned (.string (jnT l)) ∧ Below u.heap.size u w') := fun u hu => by
                have := join_any l p c u (by rw [HLn.out]; omega) hu (by omega)
                rw [HLn.out] at this
                exact this
              have hz : (jnT l).size = (joinP (bls l)).length := rfl
              have hz2 : (jnT l).size ≤ 4501 := by have := joinP_len (bls l); omega
              have HLe : Hid ((joinP (bls l)).length ≤ 1024 → prE (bl (jnT l)) = 0 ∧ prL (bl (jnT l)) = bls l) := fun q => join_ok HA.out q
              have HLt : Hid ((joinP (bls l)).length < 1024 → prE (bl (jnT l ++ ⟨#[47]⟩)) = 0 ∧ prL (bl (jnT l ++ ⟨#[47]⟩)) = bls l) := fun q => by
                rw [bl_app]
                exact join_end HA.out q
              have HGt : Hid (1024 < (joinP (bls l)).length → prE (bl (jnT l)) = 4) := fun q => join_long q
              have hadd := add_str (jnT l) ⟨#[47]⟩ (by have : (⟨#[47]⟩ : ByteArray).size = 1 := rfl; omega)
              have hzz : (jnT l ++ ⟨#[47]⟩).size ≤ 9223372036854775807 := by rw [ByteArray.size_append]; have : (⟨#[47]⟩ : ByteArray).size = 1 := rfl; omega
              rw [← hz] at HLe HLt HGt
              clear HP HA hfew hz e
              generalize jnT l = J at *
              generalize J ++ (⟨#[47]⟩ : ByteArray) = J2 at *
              go_wp2_with (first | (go_at_call 10; fail))
              refine (HJ.out _ HT2.out).mono ?_
              rintro e V1 ⟨rfl, hb⟩
              have HBV1 : Hid _ := below_next HB.out hb
              have HTV1 : Hid (TxAt V1 p l) := TxAt.later HT2.out hb
              clear hb HJ HT2 HB
              by_cases hlong : 1024 < J.size
              · have hE := HGt.out hlong
                have HQ : Hid _ := fun u => parse_any J u (by omega)
                rw [hE] at HQ
                have g1 : decide ((1024 : Int) < (J.size : Int)) = true := decide_eq_true (by omega)
                clear HLe HLt HGt hE
                go_wp2_with (first | (go_at_call 7; fail))
                refine (HQ.out _).mono ?_
                rintro e V2 ⟨v2, rfl, _, hb⟩
                have HBV2 : Hid _ := below_next HBV1.out hb
                clear hb HQ HBV1
                go_wp2
                go_ret
                exact ⟨rfl, HBV2.out⟩
              · obtain ⟨hE, hL⟩ := HLe.out (by omega)
                have HQ : Hid _ := fun u => parse_at J 0 l hE hL (by omega) u
                have g1 : decide ((1024 : Int) < (J.size : Int)) = false := decide_eq_false (by omega)
                have HSame : Hid (∀ (u : World) (q : Option Addr) (d : Nat), TxAt u q l → TxAt u p l → Calls Try.prog 12 #[.slice q n d, .slice p n c] u fun e w' => e = .returned (.bool true) ∧ Below u.heap.size u w') := fun u q d h1 h2 => same_known d c n n h1 h2 HLn.out HLn.out (by omega) true (by simp)
                rw [HLn.out] at HQ
                clear HLe HGt hE hL
                go_wp2_with (first | (go_at_call 7; fail))
                refine (HQ.out _).mono ?_
                rintro e V2 ⟨p2, c2, rfl, ht, hb⟩
                have HBV2 : Hid _ := below_next HBV1.out hb
                have HTV2 : Hid (TxAt V2 p l) := TxAt.later HTV1.out hb
                have HT22 : Hid (TxAt V2 p2 l) := ht
                clear hb HQ HBV1 HTV1 ht
                by_cases hfull : J.size = 1024
                · have g2 : ((J.size : Int) == 1024) = true := beq_iff_eq.2 (by omega)
                  have g3 : decide (J.size = 1024) = true := decide_eq_true hfull
                  have HQ : Hid _ := fun u => parse_any J2 u hzz
                  clear HLt
                  generalize prE (bl J2) = E2 at *
                  generalize prL (bl J2) = L2 at *
                  go_wp2_with (first | (go_at_call 7; fail))
                  refine (HQ.out _).mono ?_
                  rintro e V3 ⟨v3, rfl, _, hb⟩
                  have HBV3 : Hid _ := below_next HBV2.out hb
                  have HTV3 : Hid (TxAt V3 p l) := TxAt.later HTV2.out hb
                  have HT23 : Hid (TxAt V3 p2 l) := TxAt.later HT22.out hb
                  clear hb HQ HBV2 HTV2 HT22
                  go_wp2_with (first | (go_at_call 12; fail))
                  refine (HSame.out _ _ _ HT23.out HTV3.out).mono ?_
                  rintro e V4 ⟨rfl, hb⟩
                  have HBV4 : Hid _ := below_next HBV3.out hb
                  clear hb HSame
                  go_wp2
                  go_ret
                  exact ⟨rfl, HBV4.out⟩
                · have g2 : ((J.size : Int) == 1024) = false := beq_eq_false_iff_ne.2 (by omega)
                  have g3 : decide (J.size = 1024) = false := decide_eq_false hfull
                  obtain ⟨hE, hL⟩ := HLt.out (by omega)
                  have HQ : Hid _ := fun u => parse_at J2 0 l hE hL hzz u
                  rw [HLn.out] at HQ
                  clear HLt hE hL
                  go_wp2_with (first | (go_at_call 7; fail))
                  refine (HQ.out _).mono ?_
                  rintro e V3 ⟨p3, c3, rfl, ht, hb⟩
                  have HBV3 : Hid _ := below_next HBV2.out hb
                  have HTV3 : Hid (TxAt V3 p l) := TxAt.later HTV2.out hb
                  have HT23 : Hid (TxAt V3 p2 l) := TxAt.later HT22.out hb
                  have HT33 : Hid (TxAt V3 p3 l) := ht
                  clear hb HQ HBV2 HTV2 HT22 ht
                  go_wp2_with (first | (go_at_call 12; fail))
                  refine (HSame.out _ _ _ HT23.out HTV3.out).mono ?_
                  rintro e V4 ⟨rfl, hb⟩
                  have HBV4 : Hid _ := below_next HBV3.out hb
                  have HTV4 : Hid (TxAt V4 p l) := TxAt.later HTV3.out hb
                  have HT34 : Hid (TxAt V4 p3 l) := TxAt.later HT33.out hb
                  clear hb HBV3 HTV3 HT23 HT33
                  go_wp2_with (first | (go_at_call 12; fail))
                  refine (HSame.out _ _ _ HT34.out HTV4.out).mono ?_
                  rintro e V5 ⟨rfl, hb⟩
                  have HBV5 : Hid _ := below_next HBV4.out hb
                  clear hb HSame
                  go_wp2
                  go_ret
                  exact ⟨rfl, HBV5.out⟩
        · have g1 : decide ((s.size : Int) < (1024 : Int)) = false := decide_eq_false (by omega)
          have HQ3 : Hid _ := fun u => parse_any S1 u hzz1
          clear hst
          generalize prE (bl S1) = E3 at *
          generalize prL (bl S1) = L3 at *
          go_wp2_with (first | (go_at_call 7; fail))
          refine (HQ3.out _).mono ?_
          rintro e w6 ⟨v3, rfl, _, hb⟩
          have HBT : Hid _ := below_next HB5.out hb
          clear hb HQ3 HB5 HT5 HSm hk hk2 hadd1 hzz1
          go_wp2
          go_loopw [12] (fun s12 wx => ∃ k : Nat, k ≤ n ∧ s12 = .int .i64 k ∧ Hid (Below w.heap.size w wx) ∧ Hid (∀ j, j < k → ∀ x, l[j]? = some x → plV x = true)) (fun s12 _ => n - (intOf s12).toNat)
          case atStart => exact ⟨0, by omega, rfl, HBT.out, fun j hj => absurd hj (Nat.not_lt_zero j)⟩
          case round =>
            clear HBT
            obtain ⟨k, hk, rfl, HB, HP⟩ := hrel
            by_cases hk2 : (k : Int) < (n : Int)
            · have hkl : k < l.length := by rw [HLn.out]; omega
              have hx : l[k]? = some l[k] := List.getElem?_eq_getElem hkl
              have hxs := HLs.out l[k] (List.getElem_mem hkl)
              generalize l[k] = x at *
              obtain ⟨b, off, rfl, hbl, hcs⟩ := HT.out (by omega)
              have hc : wr.cell? ⟨b, off + k, none⟩ = some (.string x) := (HB.out.cell (p := ⟨b, off + k, none⟩) hbl).trans (hcs k x hx)
              have HPx : Hid _ := plain_any x wr hxs
              have HX : Hid (l[k]? = some x) := hx
              clear hcs hx hxs
              go_wp2_with (first | (go_at_call 19; fail))
              refine Calls.mono HPx.out ?_
              rintro e W1 ⟨rfl, hw⟩
              subst hw
              by_cases hp : plV x = true
              · have HP2 : Hid (∀ j, j < k + 1 → ∀ y, l[j]? = some y → plV y = true) := fun j hj y hy => by
                  by_cases e : j = k
                  · subst e
                    rw [HX.out] at hy
                    injection hy with hy
                    rw [← hy]
                    exact hp
                  · exact HP.out j (by omega) y hy
                clear HPx HP
                rw [hp]
                go_wp2
                exact ⟨⟨k + 1, by omega, by go_num, HB.out, HP2.out⟩, by simp [intOf]; omega⟩
              · have hp2 : plV x = false := by simpa using hp
                clear HPx HP hp
                rw [hp2]
                go_wp2
                go_ret
                exact ⟨rfl, HB.out⟩
            · have e : k = n := by omega
              have HA : Hid (∀ p ∈ bls l, (p ≠ [] ∧ p.length ≤ 14) ∧ ∀ c ∈ p, c ≠ 47 ∧ c ≠ 0) := fun p hp => by
                obtain ⟨x, hx, rfl⟩ := List.mem_map.1 hp
                obtain ⟨j, hj⟩ := List.getElem?_of_mem hx
                have hjl := (List.getElem?_eq_some_iff.1 hj).1
                rw [HLn.out] at hjl
                exact (plV_iff x).1 (HP.out j (by omega) x hj)
              have HT2 : Hid (TxAt wr p l) := TxAt.later HT.out HB.out
              have hfew : (jl (bls l)).length ≤ 4500 := by
                have := jl_few (bls l) fun p hp => (HA.out p hp).1.2
                rw [bls_len, HLn.out] at this
                omega
              have HJ : Hid (∀ u, TxAt u p l → Calls Try.prog 10 #[.slice p n c] u fun e w' => e = .returned (.string (jnT l)) ∧ Below u.heap.size u w') := fun u hu => by
                have := join_any l p c u (by rw [HLn.out]; omega) hu (by omega)
                rw [HLn.out] at this
                exact this
              have hz : (jnT l).size = (joinP (bls l)).length := rfl
              have hz2 : (jnT l).size ≤ 4501 := by have := joinP_len (bls l); omega
              have HLe : Hid ((joinP (bls l)).length ≤ 1024 → prE (bl (jnT l)) = 0 ∧ prL (bl (jnT l)) = bls l) := fun q => join_ok HA.out q
              have HLt : Hid ((joinP (bls l)).length < 1024 → prE (bl (jnT l ++ ⟨#[47]⟩)) = 0 ∧ prL (bl (jnT l ++ ⟨#[47]⟩)) = bls l) := fun q => by
                rw [bl_app]
                exact join_end HA.out q
              have HGt : Hid (1024 < (joinP (bls l)).length → prE (bl (jnT l)) = 4) := fun q => join_long q
              have hadd := add_str (jnT l) ⟨#[47]⟩ (by have : (⟨#[47]⟩ : ByteArray).size = 1 := rfl; omega)
              have hzz : (jnT l ++ ⟨#[47]⟩).size ≤ 9223372036854775807 := by rw [ByteArray.size_append]; have : (⟨#[47]⟩ : ByteArray).size = 1 := rfl; omega
              rw [← hz] at HLe HLt HGt
              clear HP HA hfew hz e
              generalize jnT l = J at *
              generalize J ++ (⟨#[47]⟩ : ByteArray) = J2 at *
              go_wp2_with (first | (go_at_call 10; fail))
              refine (HJ.out _ HT2.out).mono ?_
              rintro e V1 ⟨rfl, hb⟩
              have HBV1 : Hid _ := below_next HB.out hb
              have HTV1 : Hid (TxAt V1 p l) := TxAt.later HT2.out hb
              clear hb HJ HT2 HB
              by_cases hlong : 1024 < J.size
              · have hE := HGt.out hlong
                have HQ : Hid _ := fun u => parse_any J u (by omega)
                rw [hE] at HQ
                have g1 : decide ((1024 : Int) < (J.size : Int)) = true := decide_eq_true (by omega)
                clear HLe HLt HGt hE
                go_wp2_with (first | (go_at_call 7; fail))
                refine (HQ.out _).mono ?_
                rintro e V2 ⟨v2, rfl, _, hb⟩
                have HBV2 : Hid _ := below_next HBV1.out hb
                clear hb HQ HBV1
                go_wp2
                go_ret
                exact ⟨rfl, HBV2.out⟩
              · obtain ⟨hE, hL⟩ := HLe.out (by omega)
                have HQ : Hid _ := fun u => parse_at J 0 l hE hL (by omega) u
                have g1 : decide ((1024 : Int) < (J.size : Int)) = false := decide_eq_false (by omega)
                have HSame : Hid (∀ (u : World) (q : Option Addr) (d : Nat), TxAt u q l → TxAt u p l → Calls Try.prog 12 #[.slice q n d, .slice p n c] u fun e w' => e = .returned (.bool true) ∧ Below u.heap.size u w') := fun u q d h1 h2 => same_known d c n n h1 h2 HLn.out HLn.out (by omega) true (by simp)
                rw [HLn.out] at HQ
                clear HLe HGt hE hL
                go_wp2_with (first | (go_at_call 7; fail))
                refine (HQ.out _).mono ?_
                rintro e V2 ⟨p2, c2, rfl, ht, hb⟩
                have HBV2 : Hid _ := below_next HBV1.out hb
                have HTV2 : Hid (TxAt V2 p l) := TxAt.later HTV1.out hb
                have HT22 : Hid (TxAt V2 p2 l) := ht
                clear hb HQ HBV1 HTV1 ht
                by_cases hfull : J.size = 1024
                · have g2 : ((J.size : Int) == 1024) = true := beq_iff_eq.2 (by omega)
                  have g3 : decide (J.size = 1024) = true := decide_eq_true hfull
                  have HQ : Hid _ := fun u => parse_any J2 u hzz
                  clear HLt
                  generalize prE (bl J2) = E2 at *
                  generalize prL (bl J2) = L2 at *
                  go_wp2_with (first | (go_at_call 7; fail))
                  refine (HQ.out _).mono ?_
                  rintro e V3 ⟨v3, rfl, _, hb⟩
                  have HBV3 : Hid _ := below_next HBV2.out hb
                  have HTV3 : Hid (TxAt V3 p l) := TxAt.later HTV2.out hb
                  have HT23 : Hid (TxAt V3 p2 l) := TxAt.later HT22.out hb
                  clear hb HQ HBV2 HTV2 HT22
                  go_wp2_with (first | (go_at_call 12; fail))
                  refine (HSame.out _ _ _ HT23.out HTV3.out).mono ?_
                  rintro e V4 ⟨rfl, hb⟩
                  have HBV4 : Hid _ := below_next HBV3.out hb
                  clear hb HSame
                  go_wp2
                  go_ret
                  exact ⟨rfl, HBV4.out⟩
                · have g2 : ((J.size : Int) == 1024) = false := beq_eq_false_iff_ne.2 (by omega)
                  have g3 : decide (J.size = 1024) = false := decide_eq_false hfull
                  obtain ⟨hE, hL⟩ := HLt.out (by omega)
                  have HQ : Hid _ := fun u => parse_at J2 0 l hE hL hzz u
                  rw [HLn.out] at HQ
                  clear HLt hE hL
                  go_wp2_with (first | (go_at_call 7; fail))
                  refine (HQ.out _).mono ?_
                  rintro e V3 ⟨p3, c3, rfl, ht, hb⟩
                  have HBV3 : Hid _ := below_next HBV2.out hb
                  have HTV3 : Hid (TxAt V3 p l) := TxAt.later HTV2.out hb
                  have HT23 : Hid (TxAt V3 p2 l) := TxAt.later HT22.out hb
                  have HT33 : Hid (TxAt V3 p3 l) := ht
                  clear hb HQ HBV2 HTV2 HT22 ht
                  go_wp2_with (first | (go_at_call 12; fail))
                  refine (HSame.out _ _ _ HT23.out HTV3.out).mono ?_
                  rintro e V4 ⟨rfl, hb⟩
                  have HBV4 : Hid _ := below_next HBV3.out hb
                  have HTV4 : Hid (TxAt V4 p l) := TxAt.later HTV3.out hb
                  have HT34 : Hid (TxAt V4 p3 l) := TxAt.later HT33.out hb
                  clear hb HBV3 HTV3 HT23 HT33
                  go_wp2_with (first | (go_at_call 12; fail))
                  refine (HSame.out _ _ _ HT34.out HTV4.out).mono ?_
                  rintro e V5 ⟨rfl, hb⟩
                  have HBV5 : Hid _ := below_next HBV4.out hb
                  clear hb HSame
                  go_wp2
                  go_ret
                  exact ⟨rfl, HBV5.out⟩
  · have HQ1 : Hid _ := fun u => parse_any s u hs
    rw [prL_none hE] at HQ1
    have ge : (prE (bl s) == 0) = false := beq_eq_false_iff_ne.2 hE
    generalize prE (bl s) = E1 at *
    go_enter Try.func4, Try.ntmps4
    go_wp2_with (first | (go_at_call 17; fail))
    refine (HV.out _).mono ?_
    rintro e w1 ⟨rfl, hb⟩
    have HB1 : Hid _ := hb
    clear hb HV
    go_wp2_with (first | (go_at_call 7; fail))
    refine (HQ1.out _).mono ?_
    rintro e w2 ⟨v1, rfl, hv, hb⟩
    obtain ⟨p1, c1, rfl, _, _, _⟩ := OwnS.texts hv
    have HBT : Hid _ := below_next HB1.out hb
    clear hb HQ1 HB1 hv
    go_wp2
    go_loopw [12] (fun s12 wx => ∃ k : Nat, k ≤ n ∧ s12 = .int .i64 k ∧ Hid (Below w.heap.size w wx) ∧ Hid (∀ j, j < k → ∀ x, l[j]? = some x → plV x = true)) (fun s12 _ => n - (intOf s12).toNat)
    case atStart => exact ⟨0, by omega, rfl, HBT.out, fun j hj => absurd hj (Nat.not_lt_zero j)⟩
    case round =>
      clear HBT
      obtain ⟨k, hk, rfl, HB, HP⟩ := hrel
      by_cases hk2 : (k : Int) < (n : Int)
      · have hkl : k < l.length := by rw [HLn.out]; omega
        have hx : l[k]? = some l[k] := List.getElem?_eq_getElem hkl
        have hxs := HLs.out l[k] (List.getElem_mem hkl)
        generalize l[k] = x at *
        obtain ⟨b, off, rfl, hbl, hcs⟩ := HT.out (by omega)
        have hc : wr.cell? ⟨b, off + k, none⟩ = some (.string x) := (HB.out.cell (p := ⟨b, off + k, none⟩) hbl).trans (hcs k x hx)
        have HPx : Hid _ := plain_any x wr hxs
        have HX : Hid (l[k]? = some x) := hx
        clear hcs hx hxs
        go_wp2_with (first | (go_at_call 19; fail))
        refine Calls.mono HPx.out ?_
        rintro e W1 ⟨rfl, hw⟩
        subst hw
        by_cases hp : plV x = true
        · have HP2 : Hid (∀ j, j < k + 1 → ∀ y, l[j]? = some y → plV y = true) := fun j hj y hy => by
            by_cases e : j = k
            · subst e
              rw [HX.out] at hy
              injection hy with hy
              rw [← hy]
              exact hp
            · exact HP.out j (by omega) y hy
          clear HPx HP
          rw [hp]
          go_wp2
          exact ⟨⟨k + 1, by omega, by go_num, HB.out, HP2.out⟩, by simp [intOf]; omega⟩
        · have hp2 : plV x = false := by simpa using hp
          clear HPx HP hp
          rw [hp2]
          go_wp2
          go_ret
          exact ⟨rfl, HB.out⟩
      · have e : k = n := by omega
        have HA : Hid (∀ p ∈ bls l, (p ≠ [] ∧ p.length ≤ 14) ∧ ∀ c ∈ p, c ≠ 47 ∧ c ≠ 0) := fun p hp => by
          obtain ⟨x, hx, rfl⟩ := List.mem_map.1 hp
          obtain ⟨j, hj⟩ := List.getElem?_of_mem hx
          have hjl := (List.getElem?_eq_some_iff.1 hj).1
          rw [HLn.out] at hjl
          exact (plV_iff x).1 (HP.out j (by omega) x hj)
        have HT2 : Hid (TxAt wr p l) := TxAt.later HT.out HB.out
        have hfew : (jl (bls l)).length ≤ 4500 := by
          have := jl_few (bls l) fun p hp => (HA.out p hp).1.2
          rw [bls_len, HLn.out] at this
          omega
        have HJ : Hid (∀ u, TxAt u p l → Calls Try.prog 10 #[.slice p n c] u fun e w' => e = .returned (.string (jnT l)) ∧ Below u.heap.size u w') := fun u hu => by
          have := join_any l p c u (by rw [HLn.out]; omega) hu (by omega)
          rw [HLn.out] at this
          exact this
        have hz : (jnT l).size = (joinP (bls l)).length := rfl
        have hz2 : (jnT l).size ≤ 4501 := by have := joinP_len (bls l); omega
        have HLe : Hid ((joinP (bls l)).length ≤ 1024 → prE (bl (jnT l)) = 0 ∧ prL (bl (jnT l)) = bls l) := fun q => join_ok HA.out q
        have HLt : Hid ((joinP (bls l)).length < 1024 → prE (bl (jnT l ++ ⟨#[47]⟩)) = 0 ∧ prL (bl (jnT l ++ ⟨#[47]⟩)) = bls l) := fun q => by
          rw [bl_app]
          exact join_end HA.out q
        have HGt : Hid (1024 < (joinP (bls l)).length → prE (bl (jnT l)) = 4) := fun q => join_long q
        have hadd := add_str (jnT l) ⟨#[47]⟩ (by have : (⟨#[47]⟩ : ByteArray).size = 1 := rfl; omega)
        have hzz : (jnT l ++ ⟨#[47]⟩).size ≤ 9223372036854775807 := by rw [ByteArray.size_append]; have : (⟨#[47]⟩ : ByteArray).size = 1 := rfl; omega
        rw [← hz] at HLe HLt HGt
        clear HP HA hfew hz e
        generalize jnT l = J at *
        generalize J ++ (⟨#[47]⟩ : ByteArray) = J2 at *
        go_wp2_with (first | (go_at_call 10; fail))
        refine (HJ.out _ HT2.out).mono ?_
        rintro e V1 ⟨rfl, hb⟩
        have HBV1 : Hid _ := below_next HB.out hb
        have HTV1 : Hid (TxAt V1 p l) := TxAt.later HT2.out hb
        clear hb HJ HT2 HB
        by_cases hlong : 1024 < J.size
        · have hE := HGt.out hlong
          have HQ : Hid _ := fun u => parse_any J u (by omega)
          rw [hE] at HQ
          have g1 : decide ((1024 : Int) < (J.size : Int)) = true := decide_eq_true (by omega)
          clear HLe HLt HGt hE
          go_wp2_with (first | (go_at_call 7; fail))
          refine (HQ.out _).mono ?_
          rintro e V2 ⟨v2, rfl, _, hb⟩
          have HBV2 : Hid _ := below_next HBV1.out hb
          clear hb HQ HBV1
          go_wp2
          go_ret
          exact ⟨rfl, HBV2.out⟩
        · obtain ⟨hE, hL⟩ := HLe.out (by omega)
          have HQ : Hid _ := fun u => parse_at J 0 l hE hL (by omega) u
          have g1 : decide ((1024 : Int) < (J.size : Int)) = false := decide_eq_false (by omega)
          have HSame : Hid (∀ (u : World) (q : Option Addr) (d : Nat), TxAt u q l → TxAt u p l → Calls Try.prog 12 #[.slice q n d, .slice p n c] u fun e w' => e = .returned (.bool true) ∧ Below u.heap.size u w') := fun u q d h1 h2 => same_known d c n n h1 h2 HLn.out HLn.out (by omega) true (by simp)
          rw [HLn.out] at HQ
          clear HLe HGt hE hL
          go_wp2_with (first | (go_at_call 7; fail))
          refine (HQ.out _).mono ?_
          rintro e V2 ⟨p2, c2, rfl, ht, hb⟩
          have HBV2 : Hid _ := below_next HBV1.out hb
          have HTV2 : Hid (TxAt V2 p l) := TxAt.later HTV1.out hb
          have HT22 : Hid (TxAt V2 p2 l) := ht
          clear hb HQ HBV1 HTV1 ht
          by_cases hfull : J.size = 1024
          · have g2 : ((J.size : Int) == 1024) = true := beq_iff_eq.2 (by omega)
            have g3 : decide (J.size = 1024) = true := decide_eq_true hfull
            have HQ : Hid _ := fun u => parse_any J2 u hzz
            clear HLt
            generalize prE (bl J2) = E2 at *
            generalize prL (bl J2) = L2 at *
            go_wp2_with (first | (go_at_call 7; fail))
            refine (HQ.out _).mono ?_
            rintro e V3 ⟨v3, rfl, _, hb⟩
            have HBV3 : Hid _ := below_next HBV2.out hb
            have HTV3 : Hid (TxAt V3 p l) := TxAt.later HTV2.out hb
            have HT23 : Hid (TxAt V3 p2 l) := TxAt.later HT22.out hb
            clear hb HQ HBV2 HTV2 HT22
            go_wp2_with (first | (go_at_call 12; fail))
            refine (HSame.out _ _ _ HT23.out HTV3.out).mono ?_
            rintro e V4 ⟨rfl, hb⟩
            have HBV4 : Hid _ := below_next HBV3.out hb
            clear hb HSame
            go_wp2
            go_ret
            exact ⟨rfl, HBV4.out⟩
          · have g2 : ((J.size : Int) == 1024) = false := beq_eq_false_iff_ne.2 (by omega)
            have g3 : decide (J.size = 1024) = false := decide_eq_false hfull
            obtain ⟨hE, hL⟩ := HLt.out (by omega)
            have HQ : Hid _ := fun u => parse_at J2 0 l hE hL hzz u
            rw [HLn.out] at HQ
            clear HLt hE hL
            go_wp2_with (first | (go_at_call 7; fail))
            refine (HQ.out _).mono ?_
            rintro e V3 ⟨p3, c3, rfl, ht, hb⟩
            have HBV3 : Hid _ := below_next HBV2.out hb
            have HTV3 : Hid (TxAt V3 p l) := TxAt.later HTV2.out hb
            have HT23 : Hid (TxAt V3 p2 l) := TxAt.later HT22.out hb
            have HT33 : Hid (TxAt V3 p3 l) := ht
            clear hb HQ HBV2 HTV2 HT22 ht
            go_wp2_with (first | (go_at_call 12; fail))
            refine (HSame.out _ _ _ HT23.out HTV3.out).mono ?_
            rintro e V4 ⟨rfl, hb⟩
            have HBV4 : Hid _ := below_next HBV3.out hb
            have HTV4 : Hid (TxAt V4 p l) := TxAt.later HTV3.out hb
            have HT34 : Hid (TxAt V4 p3 l) := TxAt.later HT33.out hb
            clear hb HBV3 HTV3 HT23 HT33
            go_wp2_with (first | (go_at_call 12; fail))
            refine (HSame.out _ _ _ HT34.out HTV4.out).mono ?_
            rintro e V5 ⟨rfl, hb⟩
            have HBV5 : Hid _ := below_next HBV4.out hb
            clear hb HSame
            go_wp2
            go_ret
            exact ⟨rfl, HBV5.out⟩
end Go.Proofs.Ytadljgaadjajdaa
