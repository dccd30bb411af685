/- Several texts joined, each with its own remark; no condition. -/
import Derived.Test.YtembocfghkmieaaK13
import Derived.Test.YtembocfghkmieaaK9
import Derived.BigQuiet
import Derived.Test.YtembocfghkmieaaK12
import Derived.Test.YtembocfghkmieaaK6
import Derived.Test.YtembocfghkmieaaK10
/- whole: all that can be asked is the same of both disks; no condition but that numbers do not pass their greatest. -/
namespace Go.Proofs.Ytembocfghkmieaa
open Go.RowKit Go.Maps
variable {w W : World} {d g gy m : Nat} {l : List Part}
theorem BoS.below (h : BoS w d g gy m l W) : Below w.heap.size w W := by
  obtain ⟨_, _, _, _, _, _, _, _, _, h, _⟩ := h
  exact h.below
theorem nil_in (w : World) {n : Int} (hn : n ≤ 9223372036854775807) : ActIn w (.slice none 0 0) (.slice none 0 0) n :=
  ⟨hn, ⟨nought, can_nought, fun V _ => by
    have := block_lies (lies_nil V nought)
    refine this.mono fun e W' ⟨h1, h2⟩ => ⟨h1.trans ?_, h2⟩
    congr 3⟩, ⟨none, 0, [], rfl, ⟨none, 0, rfl, fun q => absurd q (by simp)⟩, by simp⟩⟩
set_option maxRecDepth 20000 in
set_option maxHeartbeats 2000000 in
theorem whole_any (h : BoS w d g gy m l W) (a : Option Addr) (len cap : Nat) (hA : ActsAt w a len) (hm : m + 2 * len + 4 ≤ 6000000) :
    Calls Try.prog 13 #[.pointer (some ⟨gy, 0, none⟩), .pointer (some ⟨d, 0, none⟩), .pointer (some ⟨g, 0, none⟩), .slice a len cap] W fun e W' => e = .returned (.bool true) ∧ BoS w d g gy (m + 2 * len + 4) l W' := by
  have HA := Hid.mk' hA.2
  have H0 := Hid.mk' h
  clear h hA
  go_enter Try.func13, Try.ntmps13
  go_wp2
  go_loopw [9] (fun s9 wx => ∃ i : Nat, i ≤ len ∧ s9 = .int .i64 i ∧ Hid (BoS w d g gy (m + 2 * i) l wx)) (fun s9 _ => len - (intOf s9).toNat)
  case atStart => exact ⟨0, by omega, rfl, H0.out⟩
  case round =>
    obtain ⟨i, hi, rfl, HB⟩ := hrel
    clear H0
    by_cases hi2 : (i : Int) < len
    · obtain ⟨b, off, rfl, ⟨A⟩⟩ := HA.out i (by omega)
      have hb := HB.out.below
      have q2 : wr.cell? ⟨b, off + i * 6 + 2, none⟩ = some (.int .i64 A.pos) := (hb.cell (p := ⟨b, off + i * 6 + 2, none⟩) A.hb).trans A.c2
      have HC1 := Hid.mk' (act_any HB.out (by omega) 0 0 A.pos 0 (nil_in w (by omega)))
      have HC2 : Hid (∀ V, BoS w d g gy (m + 2 * i + 1) l V → V.cell? ⟨b, off + i * 6 + 4, none⟩ = some (.int .i64 A.n) ∧ Calls Try.prog 12 #[.pointer (some ⟨gy, 0, none⟩), .pointer (some ⟨d, 0, none⟩), .pointer (some ⟨g, 0, none⟩), .agg (actC 0 6 0 (.slice none 0 0) A.n (.slice none 0 0))] V fun e W' => e = .returned (.bool true) ∧ BoS w d g gy (m + 2 * i + 1 + 1) l W') := fun V hV => ⟨(hV.below.cell (p := ⟨b, off + i * 6 + 4, none⟩) A.hb).trans A.c4, act_any hV (by omega) 0 6 0 A.n (nil_in w A.hn.2)⟩
      generalize A.pos = pos at *
      generalize A.n = n at *
      unfold actC at HC1 HC2
      clear HB hb
      go_wp2_with (go_at_call 12; fail)
      refine Calls.mono HC1.out ?_
      rintro e V1 ⟨rfl, h1⟩
      obtain ⟨q4, hc2⟩ := HC2.out V1 h1
      have HC3 := Hid.mk' hc2
      clear HC1 HC2 h1 q2 hc2
      go_wp2_with (go_at_call 12; fail)
      refine Calls.mono HC3.out ?_
      rintro e V2 ⟨rfl, h2⟩
      have H2 : Hid (BoS w d g gy (m + 2 * (i + 1)) l V2) := by
        have e : m + 2 * i + 1 + 1 = m + 2 * (i + 1) := by omega
        rw [e] at h2
        exact h2
      clear h2 HC3 q4
      go_wp2
      exact ⟨⟨i + 1, by omega, by go_num, H2.out⟩, by simp [intOf]; omega⟩
    · obtain rfl : i = len := by omega
      clear HA
      go_wp2
      go_loopw [10] (fun s10 wx => ∃ k : Int, 7 ≤ k ∧ k ≤ 11 ∧ s10 = .int .i64 k ∧ Hid (BoS w d g gy (m + 2 * i + (k - 7).toNat) l wx)) (fun s10 _ => (11 - intOf s10).toNat)
      case atStart => exact ⟨7, by omega, by omega, rfl, HB.out⟩
      case round =>
        clear HB
        obtain ⟨k, hk7, hk, rfl, HB⟩ := hrel
        by_cases hk2 : k ≤ 10
        · have hk3 : k ≤ 10 := hk2
          have HC1 := Hid.mk' (act_any HB.out (by omega) 0 k 0 0 (nil_in w (by omega)))
          unfold actC at HC1
          clear HB
          go_wp2_with (go_at_call 12; fail)
          refine Calls.mono HC1.out ?_
          rintro e V1 ⟨rfl, h1⟩
          have H1 : Hid (BoS w d g gy (m + 2 * i + (k + 1 - 7).toNat) l V1) := by
            have e : m + 2 * i + (k - 7).toNat + 1 = m + 2 * i + (k + 1 - 7).toNat := by omega
            rw [e] at h1
            exact h1
          clear h1 HC1
          go_wp2
          exact ⟨⟨k + 1, by omega, by omega, by go_num, H1.out⟩, by simp [intOf]; omega⟩
        · obtain rfl : k = 11 := by omega
          go_wp2
          go_loopw [11] (fun s11 wx => ∃ n : Int, -1 ≤ n ∧ n ≤ 4 ∧ s11 = .int .i64 n ∧ Hid (BoS w d g gy (m + 2 * i + 4) l wx)) (fun s11 _ => (4 - intOf s11).toNat)
          case atStart => exact ⟨-1, by omega, by omega, rfl, HB.out⟩
          case round =>
            clear HB
            obtain ⟨n, hn1, hn2, rfl, HB⟩ := hrel
            by_cases hn3 : n < 4
            · obtain ⟨v0, v1, v2, v3, v4, v5, Y, s, t, hB, hS, hc, hY⟩ := HB.out
              have Q1 := Hid.mk' (both_claimed hB n)
              have q2 := both_rclaimed hB n
              rw [hS.isClaimed n] at q2
              have Q2 := Hid.mk' q2
              clear q2 hB hS hc hY
              generalize claimedV s n = z at *
              go_wp2_with (first | (go_at_call 37; refine Calls.mono Q1.out ?_; rintro e V1 ⟨rfl, rfl⟩) | (go_at_call 48; refine Calls.mono Q2.out ?_; rintro e V1 ⟨rfl, rfl⟩))
              exact ⟨⟨n + 1, by omega, by omega, by go_num, HB.out⟩, by simp [intOf]; omega⟩
            · obtain rfl : n = 4 := by omega
              go_wp2
              go_ret
              exact ⟨rfl, HB.out⟩
end Go.Proofs.Ytembocfghkmieaa
/- Lists of numbers held against each other: SameInts; no condition but that lists are not longer than lists can be. -/
namespace Go.Proofs.Ytembocfghkmieaa
open Go.RowKit Go.Maps
def IntsAt (w : World) (p : Option Addr) (l : List Int) : Prop := 0 < l.length → ∃ b off, p = some ⟨b, off, none⟩ ∧ b < w.heap.size ∧ ∀ k x, l[k]? = some x → w.cell? ⟨b, off + k, none⟩ = some (.int .i64 x)
theorem IntsAt.of {w : World} {p : Option Addr} {l : List Int} (h : LiesE enI 1 w p l) : IntsAt w p l := fun h0 => by
  obtain ⟨b, off, h1, h2, h3⟩ := h h0
  exact ⟨b, off, h1, h2, fun k x hx => by have := h3 k x hx 0 _ rfl; rwa [Nat.mul_one, Nat.add_zero] at this⟩
theorem belowN {B : Nat} {w W : World} (h : Below B w W) (q : Nat) : Below B w (W.drewN q) := h.trans ⟨rfl, rfl, rfl, Nat.le_refl _, fun _ _ => rfl⟩
set_option maxRecDepth 20000 in
set_option maxHeartbeats 1000000 in
theorem sameInts_any (s t : List Int) (p q : Option Addr) (cp cq : Nat) (w : World) (hls : s.length < 9223372036854775807) (hs : IntsAt w p s) (ht : IntsAt w q t) :
    Calls Try.prog 56 #[.slice p s.length cp, .slice q t.length cq] w fun e w' => e = .returned (.bool (decide (s = t))) ∧ Below w.heap.size w w' := by
  by_cases hl : s.length = t.length
  · have HS : Hid (IntsAt w p s) := hs
    have HT : Hid (IntsAt w q t) := ht
    have HR : Hid (decide (s = t) = decide (s.drop 0 = t.drop 0)) := rfl
    generalize decide (s = t) = res at *
    obtain ⟨n, hn⟩ : ∃ n, s.length = n := ⟨_, rfl⟩
    have hn2 : t.length = n := by omega
    rw [hn, hn2]
    rw [hn] at hls
    have HL : Hid (s.length = n ∧ t.length = n) := ⟨hn, hn2⟩
    clear hs ht hl hn hn2
    go_enter Try.func56, Try.ntmps56
    go_wp2
    go_loopw [5] (fun s5 wx => ∃ k : Nat, k ≤ n ∧ s5 = .int .i64 k ∧ Hid (Below w.heap.size w wx) ∧ Hid (res = decide (s.drop k = t.drop k))) (fun s5 _ => n - (intOf s5).toNat)
    case atStart => exact ⟨0, by omega, rfl, Below.refl _ _, HR.out⟩
    case round =>
      obtain ⟨k, hk, rfl, HB, HR2⟩ := hrel
      clear HR
      by_cases hk2 : (k : Int) < n
      · obtain ⟨hn, hn2⟩ := HL.out
        have hc : s[k]? = some s[k] := List.getElem?_eq_getElem (by omega)
        have hd : t[k]? = some t[k] := List.getElem?_eq_getElem (by omega)
        have hcd : s.drop k = s[k] :: s.drop (k + 1) := List.drop_eq_getElem_cons (by omega)
        have hdd : t.drop k = t[k] :: t.drop (k + 1) := List.drop_eq_getElem_cons (by omega)
        obtain ⟨b1, o1, rfl, l1, C1⟩ := HS.out (by omega)
        obtain ⟨b2, o2, rfl, l2, C2⟩ := HT.out (by omega)
        generalize s[k] = c at hc hcd
        generalize t[k] = d at hd hdd
        have q1 : wr.cell? ⟨b1, o1 + k, none⟩ = some (.int .i64 c) := (HB.out.cell (p := ⟨b1, o1 + k, none⟩) l1).trans (C1 k c hc)
        have q2 : wr.cell? ⟨b2, o2 + k, none⟩ = some (.int .i64 d) := (HB.out.cell (p := ⟨b2, o2 + k, none⟩) l2).trans (C2 k d hd)
        have hR := HR2.out
        rw [hcd, hdd] at hR
        clear HR2 C1 C2 hcd hdd hc hd hn hn2
        by_cases hcdd : c = d
        · subst hcdd
          have HR3 : Hid (res = decide (s.drop (k + 1) = t.drop (k + 1))) := by
            have e : res = decide (s.drop (k + 1) = t.drop (k + 1)) := by rw [hR]; simp
            exact e
          have g0 : decide (c = c) = true := by simp
          clear hR
          go_wp2
          go_quiet (fail)
          go_wp2
          exact ⟨⟨k + 1, by omega, by go_num, belowN HB.out _, HR3.out⟩, by simp [intOf]; omega⟩
        · have hr0 : res = false := by rw [hR]; simp [hcdd]
          have g0 : decide (c = d) = false := decide_eq_false hcdd
          clear hR
          subst hr0
          go_wp2
          go_quiet (fail)
          go_wp2
          go_ret
          exact ⟨rfl, belowN HB.out _⟩
      · obtain rfl : k = n := by omega
        have hr0 : res = true := by
          obtain ⟨hn, hn2⟩ := HL.out
          rw [HR2.out, List.drop_of_length_le (by omega), List.drop_of_length_le (by omega)]
          rfl
        subst hr0
        go_wp2
        go_ret
        exact ⟨rfl, HB.out⟩
  · have e : decide (s = t) = false := decide_eq_false fun q => hl (by rw [q])
    rw [e]
    have hlI : ¬ ((s.length : Int) = t.length) := by omega
    clear e hs ht
    go_enter Try.func56, Try.ntmps56
    go_wp2
    go_ret
    exact ⟨rfl, Below.refl _ _⟩
end Go.Proofs.Ytembocfghkmieaa
/- The lists that a book has are told apart; at most eight million of them, each of at most seven million. -/
namespace Go.Proofs.Ytembocfghkmieaa
open Go.RowKit Go.Maps
section
variable {α : Type} {en : α → List Value} {e sl sz : Nat} {v : Value} {T : List (Tl α)} {W : World}
theorem bk_row {n : Nat} {x : Tl α} (h : Bk en e sl sz v T W) (hx : T[n]? = some x) : ∃ gl c, v = .slice (some ⟨gl, 0, none⟩) T.length c ∧ gl < W.heap.size ∧ W.cell? ⟨gl, n, none⟩ = some x.v := by
  have hn := (List.getElem?_eq_some_iff.1 hx).1
  rcases own_form h.row with ⟨_, q⟩ | ⟨gl, c, rfl, hlt⟩
  · omega
  · refine ⟨gl, c, rfl, hlt, ?_⟩
    have := own_get enS_len h.row hx 0 _ rfl
    rwa [Nat.mul_one, Nat.add_zero] at this
theorem bk_lsts (hne : e ≠ sl) (h : Bk en e sl sz v T W) (h0 : 0 < T.length) (he : ∀ x ∈ T, x.l.length ≤ 10000000) : ∃ (gl c : Nat) (ps : Nat → Option Addr) (ns cs : Nat → Nat) (fs : Nat → List α), v = .slice (some ⟨gl, 0, none⟩) T.length c ∧
    (∀ k, k < T.length → (fs k).length = ns k ∧ ns k ≤ 10000000) ∧ Apt T.length gl (fun k => .slice (ps k) (ns k) (cs k)) ∧ Lsts en e sz T.length gl (fun k => .slice (ps k) (ns k) (cs k)) W fs W ∧ ∀ i, TV T.length (fun k => .slice (ps k) (ns k) (cs k)) i → bkO v T i := by
  obtain ⟨gl, c, rfl, _, _⟩ := bk_row h (List.getElem?_eq_getElem h0)
  let f : Nat → Tl α := fun k => T.getD k ⟨none, 0, []⟩
  have hf : ∀ k, k < T.length → T[k]? = some (f k) ∧ f k ∈ T := fun k hk => by
    have e : f k = T[k] := by show T.getD k _ = _; rw [List.getD_eq_getElem?_getD, List.getElem?_eq_getElem hk]; rfl
    rw [e]
    exact ⟨List.getElem?_eq_getElem hk, List.getElem_mem hk⟩
  refine ⟨gl, c, fun k => (f k).p, fun k => (f k).l.length, fun k => (f k).c, fun k => (f k).l, rfl, fun k hk => ⟨rfl, he _ (hf k hk).2⟩, ⟨fun k hk q => ?_, fun j k hj hk hjk b q r => ?_⟩, ⟨Fr.refl _ _, fun k hk => ?_, fun k hk => h.own _ (hf k hk).2⟩, fun i ⟨k, hk, q⟩ => .inr ⟨f k, (hf k hk).2, q⟩⟩
  · exact rows_apart (Ne.symm hne) (h.own _ (hf k hk).2) q h.row rfl
  · have hp := List.pairwise_iff_getElem.1 h.two
    have ej := (List.getElem?_eq_some_iff.1 (hf j hj).1).2
    have ek := (List.getElem?_eq_some_iff.1 (hf k hk).1).2
    by_cases hlt : j < k
    · exact hp j k hj hk hlt b (by rw [ej]; exact q) (by rw [ek]; exact r)
    · exact hp k j hk hj (by omega) b (by rw [ek]; exact r) (by rw [ej]; exact q)
  · obtain ⟨gl', c', e1, _, e2⟩ := bk_row h (hf k hk).1
    injection e1 with e1
    injection e1 with e1
    injection e1 with e1
    subst e1
    exact e2
variable {w : World} {l : List Part}
theorem Sep.after {p : Part} {W' : World} (h : Sep w W (p :: l)) {S : Nat → Prop} (hF : Fr S W W') (hS : ∀ k, S k → p.own k) : Sep w W' l :=
  h.drop.kept hF (fun q hq k hk hs => (List.pairwise_cons.1 h.apart).1 q hq k (hS k hs) hk) fun k _ hs => (h.headLt (p := p) (hS k hs)).1
end
section
variable {w W : World} {l : List Part} {v : Value}
theorem sep_apartI {T : List (Tl Int)} (h : Sep w W (bkP enI 3 65 1 v T :: l)) (hn : T.length ≤ 8000000) (he : ∀ x ∈ T, x.l.length ≤ 7000000) : Calls Try.prog 58 #[v] W fun e W' => e = .returned (.bool true) ∧ Sep w W' l := by
  have hB : Bk enI 3 65 1 v T W := h.head
  by_cases h0 : 0 < T.length
  · obtain ⟨gl, c, ps, ns, cs, fs, rfl, h1, h2, h3, h4⟩ := bk_lsts (by decide) hB h0 fun x hx => by have := he x hx; omega
    exact (apartI_any T.length gl ps ns cs W fs h0 (by omega) c h1 h2 h3).mono fun e W' ⟨k1, k2⟩ => ⟨k1, h.after k2 h4⟩
  · obtain ⟨p, c, hv, _⟩ := own_slice hB.row
    rw [show T.length = 0 by omega] at hv
    rw [hv]
    exact (apartI_none c p W).mono fun e W' ⟨k1, k2⟩ => ⟨k1, by rw [k2]; exact h.drop⟩
theorem sep_apartO {T : List (Tl Rec)} (h : Sep w W (bkP recCells 108 67 1026 v T :: l)) (hn : T.length ≤ 8000000) (he : ∀ x ∈ T, x.l.length ≤ 7000000) : Calls Try.prog 59 #[v] W fun e W' => e = .returned (.bool true) ∧ Sep w W' l := by
  have hB : Bk recCells 108 67 1026 v T W := h.head
  by_cases h0 : 0 < T.length
  · obtain ⟨gl, c, ps, ns, cs, fs, rfl, h1, h2, h3, h4⟩ := bk_lsts (by decide) hB h0 fun x hx => by have := he x hx; omega
    exact (apartO_any T.length gl ps ns cs W fs h0 (by omega) c h1 h2 h3).mono fun e W' ⟨k1, k2⟩ => ⟨k1, h.after k2 h4⟩
  · obtain ⟨p, c, hv, _⟩ := own_slice hB.row
    rw [show T.length = 0 by omega] at hv
    rw [hv]
    exact (apartO_none c p W).mono fun e W' ⟨k1, k2⟩ => ⟨k1, by rw [k2]; exact h.drop⟩
theorem sep_apartH {T : List (Tl Cel)} (h : Sep w W (bkP celRow 85 30 1025 v T :: l)) (hn : T.length ≤ 8000000) (he : ∀ x ∈ T, x.l.length ≤ 7000000) : Calls Try.prog 22 #[v] W fun e W' => e = .returned (.bool true) ∧ Sep w W' l := by
  have hB : Bk celRow 85 30 1025 v T W := h.head
  by_cases h0 : 0 < T.length
  · obtain ⟨gl, c, ps, ns, cs, fs, rfl, h1, h2, h3, h4⟩ := bk_lsts (by decide) hB h0 fun x hx => by have := he x hx; omega
    exact (apartHN_any T.length gl ps ns cs W fs h0 (by omega) c h1 h2 h3).mono fun e W' ⟨k1, k2⟩ => ⟨k1, h.after k2 h4⟩
  · obtain ⟨p, c, hv, _⟩ := own_slice hB.row
    rw [show T.length = 0 by omega] at hv
    rw [hv]
    exact (apartH_none c p W).mono fun e W' ⟨k1, k2⟩ => ⟨k1, by rw [k2]; exact h.drop⟩
end
/-- Two lists of the book, one beside the other. -/
theorem tl_pair {α : Type} {T U : List (Tl α)} (h : T.map (·.l) = U.map (·.l)) {n : Nat} (hn : n < T.length) : ∃ x y, T[n]? = some x ∧ U[n]? = some y ∧ x.l = y.l ∧ x ∈ T ∧ y ∈ U := by
  have hl : T.length = U.length := by have := congrArg List.length h; simpa using this
  refine ⟨T[n], U[n], List.getElem?_eq_getElem hn, List.getElem?_eq_getElem (by omega), ?_, List.getElem_mem hn, List.getElem_mem (by omega)⟩
  have e := congrArg (fun l => l[n]?) h
  simp only [List.getElem?_map, List.getElem?_eq_getElem hn, List.getElem?_eq_getElem (show n < U.length by omega), Option.map_some] at e
  exact Option.some.inj e
end Go.Proofs.Ytembocfghkmieaa
/- Lists of blocks with their numbers lent out: copied with marks behind them, held against what they were, written over; of at most a million and a half. -/
namespace Go.Proofs.Ytembocfghkmieaa
open Go.RowKit Go.Maps
section
variable {α : Type} {en : α → List Value} {sz e : Nat}
theorem append_copyW {st : TypeId} {i : TypeInfo} {z : Value} {bytes : Nat} (hr : ∀ x, (en x).length = sz) (h1 : ∀ x, ∀ u ∈ en x, u.oneCell' = true) (ht : Try.prog.underlying st = some (.slice e)) (hi : Try.prog.info? e = some i) (hz : i.zero = some z) (hsize : i.size = sz) (hby : i.bytes = bytes) (hzs : z.cells.size = sz) (hsz : 0 < sz) (hbb : bytes ≤ 2000)
    {W : World} {p : Option Addr} {c : Nat} {l : List α} (hl : LiesE en sz W p l) (hn : l.length ≤ 2000000) (ty : TypeId) :
    ∃ v' w', (Builtin.append_ #[st, st] ty #[.slice none 0 0, .slice p l.length c]).run Try.prog W = .ok v' w' ∧ w'.ownsRow W.heap.size e sz v' l.length (l.flatMap en) ∧ Below W.heap.size W w' := by
  have hbt : ((0 + l.length) + (0 + l.length) / 4 + 192) * bytes ≤ 281474976710656 := by
    have : ((0 + l.length) + (0 + l.length) / 4 + 192) * bytes ≤ 2500192 * 2000 := Nat.mul_le_mul (by omega) hbb
    omega
  have key : ∀ ad : Addr, p = some ad → (∀ j u, (l.flatMap en)[j]? = some u → W.cell? (ad.add j) = some u) → ∃ v' w', (Builtin.append_ #[st, st] ty #[.slice none 0 0, .slice p l.length c]).run Try.prog W = .ok v' w' ∧ w'.ownsRow W.heap.size e sz v' l.length (l.flatMap en) ∧ Below W.heap.size W w' := fun ad hp hc => by
    subst hp
    obtain ⟨v', w', hrun, h2, hg, _⟩ := run_append_own_wide (P := Try.prog) W W.heap.size st ty e i z sz bytes ht hi hz hsize hby hzs hsz (.slice none 0 0) 0 [] (World.ownsRow_nil _ _ _ _) ad l.length c (l.flatMap en) (fml hr l) hc (fun u hu => by
      obtain ⟨x, _, hx⟩ := List.mem_flatMap.1 hu
      exact h1 x u hx) (by unfold maxLen; omega) hbt (Nat.le_refl _)
    refine ⟨v', w', hrun, by simpa using h2, (Below.refl _ _).grown hg (Nat.le_refl _) fun k hk => by cases hk⟩
  by_cases h0 : 0 < l.length
  · obtain ⟨b, off, hp, _, hc⟩ := hl h0
    exact key _ hp fun j u hu => by
      rw [Go.WideShapes.add_plain]
      exact LiesE.cells hr hsz hc j u hu
  · have hl0 : l = [] := List.length_eq_zero_iff.1 (by omega)
    subst hl0
    cases p with
    | some ad => exact key ad rfl fun j u hu => by simp at hu
    | none =>
      refine ⟨.slice none 0 0, W, ?_, World.ownsRow_nil _ _ _ _, Below.refl _ _⟩
      simp [go_sem, run_underlying ht, sizeOf, typeInfo, hi]
end
theorem LiesE.later {α : Type} {en : α → List Value} {sz : Nat} {w w' : World} {p : Option Addr} {l : List α} (h : LiesE en sz w p l) (hb : Below w.heap.size w w') : LiesE en sz w' p l := fun h0 => by
  obtain ⟨b, off, hp, hlt, hc⟩ := h h0
  exact ⟨b, off, hp, Nat.lt_of_lt_of_le hlt hb.size, fun k x hx j v hv => (hb.cell (p := ⟨b, off + k * sz + j, none⟩) hlt).trans (hc k x hx j v hv)⟩
theorem lies_img {w : World} {p : Option Addr} {l : List Cel} (h : LiesE celRow 1025 w p l) : ImgAt w p l := fun h0 => by
  obtain ⟨b, off, hp, hlt, hc⟩ := h h0
  refine ⟨b, off, hp, hlt, fun k x hx => ⟨hc k x hx 0 _ rfl, fun j v hv => ?_⟩⟩
  have := hc k x hx (j + 1) v (by unfold celRow; rw [List.getElem?_cons_succ]; exact hv)
  rwa [show off + k * 1025 + (j + 1) = off + k * 1025 + 1 + j by omega] at this
theorem img_lies {w : World} {p : Option Addr} {l : List Cel} (h : ImgAt w p l) : LiesE celRow 1025 w p l := fun h0 => by
  obtain ⟨b, off, hp, hlt, hc⟩ := h h0
  exact ⟨b, off, hp, hlt, fun k x hx j v hv => CelAt.range (hc k x hx) j v hv⟩
def mk7H (i : Nat) : Cel := (-1000 * 7 - (i : Int) - 7, nought)
def lentH (l : List Cel) : List Cel := l ++ mks mk7H 6
set_option maxRecDepth 20000 in
theorem copyH_any (l : List Cel) (p : Option Addr) (c : Nat) (w : World) (hn : l.length ≤ 1500000) (h : LiesE celRow 1025 w p l) :
    Calls Try.prog 73 #[.slice p l.length c] w fun e w' => ∃ v, e = .returned v ∧ w'.ownsRow w.heap.size 85 1025 v l.length (l.flatMap celRow) ∧ Below w.heap.size w w' := by
  obtain ⟨i0, hi0, hz0, hz1, hz2⟩ := info_parts info85
  obtain ⟨v', w', hr, ho, hb⟩ := append_copyW (c := c) lenH oneH Try.underlying30 hi0 hz0 hz1 hz2 (cel_size (0, nought)) (by omega) (by omega) h (by omega) 30
  have HR := Hid.mk' hr
  clear hr h hz0 hi0
  go_enter Try.func73, Try.ntmps73
  go_wp2_with (first | refine wpList_exec rfl (exec_pushY rfl rfl rfl HR.out) ?_)
  go_ret
  exact ⟨v', rfl, ho, hb⟩
set_option maxRecDepth 20000 in
set_option maxHeartbeats 400000 in
theorem lentH_any (l : List Cel) (p : Option Addr) (c : Nat) (w : World) (hn : l.length ≤ 1500000) (h : LiesE celRow 1025 w p l) :
    Calls Try.prog 38 #[.slice p l.length c] w fun e w' => ∃ v, e = .returned v ∧ w'.ownsRow w.heap.size 85 1025 v (lentH l).length ((lentH l).flatMap celRow) ∧ Below w.heap.size w w' := by
  obtain ⟨i0, hi0, hz0, hz1, hz2⟩ := info_parts info85
  have HC := Hid.mk' (copyH_any l p c w hn h)
  have HPu := Hid.mk' (fun (w1 : World) (v : Value) (l1 : List Cel) (h : w1.ownsRow w.heap.size 85 1025 v l1.length (l1.flatMap celRow)) (hB : w.heap.size ≤ w1.heap.size) (hn : l1.length ≤ 50000000) (x : Cel) => own_push lenH oneH Try.underlying30 hi0 hz0 hz1 hz2 (cel_size (0, nought)) (by omega) (by omega) h hB hn x 30)
  clear h hi0 hz0 hz1 hz2
  go_enter Try.func38, Try.ntmps38
  go_wp2_with (go_at_call 73; fail)
  refine Calls.mono HC.out ?_
  rintro e W1 ⟨v1, rfl, ho1, hb1⟩
  have HO1 : Hid (W1.ownsRow w.heap.size 85 1025 v1 (l ++ mks mk7H 0).length ((l ++ mks mk7H 0).flatMap celRow)) := by
    have e0 : l ++ mks mk7H 0 = l := by simp [mks]
    rw [e0]
    exact Hid.mk' ho1
  have HB1 := Hid.mk' hb1
  clear ho1 hb1 HC
  go_wp2
  go_loopw [3, 4] (fun s3 s4 wx => ∃ i : Nat, (i : Int) ≤ 6 ∧ s4 = .int .i64 i ∧ Hid (wx.ownsRow w.heap.size 85 1025 s3 (l ++ mks mk7H i).length ((l ++ mks mk7H i).flatMap celRow)) ∧ Hid (Below w.heap.size w wx)) (fun _ s4 _ => 6 - (intOf s4).toNat)
  case atStart => exact ⟨0, by omega, rfl, HO1.out, HB1.out⟩
  case round =>
    obtain ⟨i, hi, rfl, HO, HB⟩ := hrel
    clear HO1 HB1
    by_cases hi2 : (i : Int) < 6
    · go_wp2_with (go_at_call 67; fail)
      refine (markH_any 7 i wr (by omega) (by omega)).mono ?_
      rintro e w2 ⟨rfl, hb2⟩
      have HB2 := Hid.mk' (HB.out.trans (hb2.mono HB.out.size))
      obtain ⟨v', w3, hr, ho3, hb3⟩ := HPu.out _ _ _ (own_later HO.out hb2) HB2.out.size (by rw [List.length_append, mks_len]; omega) (mk7H i)
      rw [List.append_assoc, ← mks_succ] at ho3
      have HO3 := Hid.mk' ho3
      have HB3 := Hid.mk' (HB2.out.trans hb3)
      have HRR := Hid.mk' hr
      clear ho3 hr hb2 hb3 HO HB HB2
      have em : ((-1000 * 7 - (i : Int) - 7, nought) : Cel) = mk7H i := rfl
      rw [em]
      generalize mk7H i = m at *
      clear em
      go_wp2_with (first | (with_reducible refine isListH 30 ?_; refine wpList_exec rfl (sliceXH (x := m) rfl rfl) ?_) | refine wpList_exec rfl (exec_pushY rfl rfl rfl HRR.out) ?_)
      exact ⟨⟨i + 1, by omega, by go_num, HO3.out, HB3.out⟩, by simp [intOf]; omega⟩
    · have hi6 : i = 6 := by omega
      subst hi6
      go_wp2
      go_ret
      exact ⟨_, rfl, HO.out, HB.out⟩
theorem celsB_same : ∀ l : List Cel, celsB l l = true
  | [] => rfl
  | a :: t => by
    unfold celsB
    rw [celsB_same t]
    unfold celB
    rw [sameB_self]
    simp
set_option maxRecDepth 20000 in
theorem keptH_any (l : List Cel) (p q : Option Addr) (cp cq : Nat) (w : World) (hn : l.length ≤ 1500000) (hf : LiesE celRow 1025 w p (lentH l)) (h : LiesE celRow 1025 w q l) :
    Calls Try.prog 40 #[.slice p (lentH l).length cp, .slice q l.length cq] w fun e w' => e = .returned (.bool true) ∧ Below w.heap.size w w' := by
  have HL := Hid.mk' (lentH_any l q cq w hn h)
  have HF := Hid.mk' hf
  have HN := Hid.mk' (show (lentH l).length ≤ 1500006 by unfold lentH; rw [List.length_append, mks_len]; omega)
  clear h hf
  generalize lentH l = L at *
  go_enter Try.func40, Try.ntmps40
  go_wp2_with (go_at_call 38; fail)
  refine Calls.mono HL.out ?_
  rintro e W1 ⟨v, rfl, ho, hb⟩
  obtain ⟨pv, cv, rfl, _⟩ := own_slice ho
  have HS := Hid.mk' (sameHelds_any L L p pv cp cv W1 (by have := HN.out; omega) (by have := HN.out; omega) (lies_img (HF.out.later hb)) (lies_img (own_lies lenH ho)))
  have HB := Hid.mk' hb
  clear ho hb
  go_wp2_with (go_at_call 19; fail)
  refine Calls.mono HS.out ?_
  rintro e W2 ⟨rfl, hb2⟩
  rw [celsB_same]
  go_wp2
  go_ret
  exact ⟨rfl, below_next HB.out hb2⟩
section
variable {ops : Array Oper} {rest : List Oper} {o : Oper} {a : Act} {w : World} {Q : Exit → Act → World → Prop} {dst : Option Tmp} {x y : Operand} {ty : TypeId} {pos : String} {aft : Array Edge} {gd : Option (Nat × Bool)}
theorem isStoreH (t : TypeId) (h : wpList Try.prog ops Q (⟨dst, .store t x y, ty, pos, aft, gd⟩ :: rest) a w) : wpList Try.prog ops Q (⟨dst, .store t x y, ty, pos, aft, gd⟩ :: rest) a w := h
theorem wpList_stXH (hgd : o.guard = none) (x y : Operand) (ho : o.op = .store 85 x y) (g off : Nat) (r : Cel) (cur : Array Value) (hx : a.eval x = .pointer (some ⟨g, off, none⟩)) (hy : a.eval y = .agg (celRow r).toArray) (hg : w.heap[g]? = some (.cells cur 85)) (hfit : off + 1025 ≤ cur.size)
    (h : wpList Try.prog ops Q rest (a.put o.dst undef) (w.setRow g (putE cur off (celRow r)))) : wpList Try.prog ops Q (o :: rest) a w :=
  wpList_plain hgd fun _ hK => by
    have hr := storeXH (x := r) hg hfit
    unfold vlH at hr
    unfold Oper.wp execOp
    simp only [ho, hx, hy, Sem.run_bind, hr, Result.andThen_ok, Sem.run_pure]
    exact hK _ _ h
end
set_option maxRecDepth 20000 in
set_option maxHeartbeats 1000000 in
theorem overH_any {b c B n : Nat} {l : List Cel} {w : World} (h : w.ownsRow B 85 1025 (.slice (some ⟨b, 0, none⟩) n c) n (l.flatMap celRow)) (hl : l.length = n) (hn : n ≤ 2000000) :
    Calls Try.prog 41 #[.slice (some ⟨b, 0, none⟩) n c] w fun e w' => e = .returned (.tuple #[]) ∧ Fr (fun k => k = b) w w' := by
  have H0 : Hid (∃ l' : List Cel, l'.length = n ∧ w.ownsRow B 85 1025 (.slice (some ⟨b, 0, none⟩) n c) n (l'.flatMap celRow)) := ⟨l, hl, h⟩
  clear h hl
  go_enter Try.func41, Try.ntmps41
  go_wp2
  go_loopw [2] (fun s2 wx => ∃ i : Nat, i ≤ n ∧ s2 = .int .i64 i ∧ Hid (∃ l' : List Cel, l'.length = n ∧ wx.ownsRow B 85 1025 (.slice (some ⟨b, 0, none⟩) n c) n (l'.flatMap celRow)) ∧ Hid (Fr (fun k => k = b) w wx)) (fun s2 _ => n - (intOf s2).toNat)
  case atStart => exact ⟨0, by omega, rfl, H0.out, Fr.refl _ _⟩
  case round =>
    obtain ⟨i, hi, rfl, HO, HF⟩ := hrel
    clear H0
    by_cases hi2 : (i : Int) < n
    · go_wp2_with (go_at_call 67; fail)
      refine (markH_any 9 i wr (by omega) (by omega)).mono ?_
      rintro e w2 ⟨rfl, hb2⟩
      generalize (-1000 * 9 - (i : Int) - 7 : Int) = M
      obtain ⟨l', hl', ho⟩ := HO.out
      obtain ⟨cur, hrow, hfit, hst⟩ := own_set (x := ((M, nought) : Cel)) (i := i) celRow_len (own_later ho hb2) hl' (by omega)
      have hs2 : wr.heap.size ≤ w2.heap.size := hb2.size
      have HF3 : Hid (Fr (fun k => k = b) w (w2.setRow b (putE cur (i * 1025) (celRow (M, nought))))) := (HF.out.trans (Fr.ofBelow (T := fun _ => False) hb2) fun _ _ q => q.elim).trans (Fr.setRow w2 b _) fun _ _ q => q
      have HO3 : Hid (∃ l' : List Cel, l'.length = n ∧ (w2.setRow b (putE cur (i * 1025) (celRow (M, nought)))).ownsRow B 85 1025 (.slice (some ⟨b, 0, none⟩) n c) n (l'.flatMap celRow)) := ⟨_, by rw [List.length_set]; exact hl', hst⟩
      have HRow := Hid.mk' hrow
      have HFit := Hid.mk' hfit
      clear hrow hfit hst ho hl' HO HF hb2
      unfold vlH
      go_wp2_with (first | (with_reducible refine isStoreH 85 ?_; refine wpList_stXH rfl (.tmp 13) (.tmp 12) rfl b (i * 1025) (M, nought) cur rfl rfl HRow.out HFit.out ?_))
      exact ⟨⟨i + 1, by omega, by go_num, HO3.out, HF3.out⟩, by simp [intOf]; omega⟩
    · go_wp2
      exact ⟨rfl, _, results_none rfl _ _ _, rfl, HF.out⟩
end Go.Proofs.Ytembocfghkmieaa
/- right: each list that was told is what it must be, and all of them lie apart; at most eight million lists. -/
namespace Go.Proofs.Ytembocfghkmieaa
open Go.RowKit Go.Maps
variable {w W : World} {gy m : Nat} {l : List Part} {v0 v1 v2 v3 v4 v5 : Value} {Y : Book}
/-- Two lists of a kind, held against each other. -/
theorem pair_i {u v : Value} (h1 : Bk enI 3 65 1 u Y.i1 W) (h2 : Bk enI 3 65 1 v Y.i2 W) (hY : Y.Ok m) {n : Nat} (hn : n < Y.i1.length) : ∃ (g0 c0 g1 c1 : Nat) (xp : Option Addr) (xn xc : Nat) (yp : Option Addr) (yc : Nat), u = .slice (some ⟨g0, 0, none⟩) Y.i1.length c0 ∧ v = .slice (some ⟨g1, 0, none⟩) Y.i1.length c1 ∧
    ∀ V, Below W.heap.size W V → V.cell? ⟨g0, n, none⟩ = some (.slice xp xn xc) ∧ V.cell? ⟨g1, n, none⟩ = some (.slice yp xn yc) ∧ Calls Try.prog 56 #[.slice xp xn xc, .slice yp xn yc] V fun e W' => e = .returned (.bool true) ∧ Below V.heap.size V W' := by
  have HY := Hid.mk' hY
  have hl : Y.i1.length = Y.i2.length := by have := congrArg List.length hY.i; simpa using this
  obtain ⟨x, y, e1, e2, e3, mx, my⟩ := tl_pair hY.i hn
  obtain ⟨g0, c0, rfl, l0, k0⟩ := bk_row h1 e1
  obtain ⟨g1, c1, rfl, l1, k1⟩ := bk_row h2 e2
  refine ⟨g0, c0, g1, c1, x.p, x.l.length, x.c, y.p, y.c, rfl, by rw [hl], fun V hb => ⟨(hb.cell (p := ⟨g0, n, none⟩) l0).trans k0, ?_, ?_⟩⟩
  · rw [(hb.cell (p := ⟨g1, n, none⟩) l1).trans k1, e3]
    rfl
  · have hx := own_later (h1.own x mx) hb
    have hy := own_later (h2.own y my) hb
    have hy' : V.ownsRow 0 3 1 (.slice y.p x.l.length y.c) x.l.length (x.l.flatMap enI) := by rw [e3]; exact hy
    clear hy
    have hy := hy'
    exact (sameInts_any x.l x.l x.p y.p x.c y.c V (by have := HY.out.ei x mx; omega) (IntsAt.of (own_lies lenI hx)) (IntsAt.of (own_lies lenI hy))).mono fun e W' ⟨h1, h2⟩ => ⟨by rw [h1]; simp, h2⟩
/-- Two lists of a kind, held against each other. -/
theorem pair_o {u v : Value} (h1 : Bk recCells 108 67 1026 u Y.o1 W) (h2 : Bk recCells 108 67 1026 v Y.o2 W) (hY : Y.Ok m) {n : Nat} (hn : n < Y.o1.length) : ∃ (g0 c0 g1 c1 : Nat) (xp : Option Addr) (xn xc : Nat) (yp : Option Addr) (yc : Nat), u = .slice (some ⟨g0, 0, none⟩) Y.o1.length c0 ∧ v = .slice (some ⟨g1, 0, none⟩) Y.o1.length c1 ∧
    ∀ V, Below W.heap.size W V → V.cell? ⟨g0, n, none⟩ = some (.slice xp xn xc) ∧ V.cell? ⟨g1, n, none⟩ = some (.slice yp xn yc) ∧ Calls Try.prog 57 #[.slice xp xn xc, .slice yp xn yc] V fun e W' => e = .returned (.bool true) ∧ Below V.heap.size V W' := by
  have HY := Hid.mk' hY
  have hl : Y.o1.length = Y.o2.length := by have := congrArg List.length hY.o; simpa using this
  obtain ⟨x, y, e1, e2, e3, mx, my⟩ := tl_pair hY.o hn
  obtain ⟨g0, c0, rfl, l0, k0⟩ := bk_row h1 e1
  obtain ⟨g1, c1, rfl, l1, k1⟩ := bk_row h2 e2
  refine ⟨g0, c0, g1, c1, x.p, x.l.length, x.c, y.p, y.c, rfl, by rw [hl], fun V hb => ⟨(hb.cell (p := ⟨g0, n, none⟩) l0).trans k0, ?_, ?_⟩⟩
  · rw [(hb.cell (p := ⟨g1, n, none⟩) l1).trans k1, e3]
    rfl
  · have hx := own_later (h1.own x mx) hb
    have hy := own_later (h2.own y my) hb
    have hy' : V.ownsRow 0 108 1026 (.slice y.p x.l.length y.c) x.l.length (x.l.flatMap recCells) := by rw [e3]; exact hy
    clear hy
    have hy := hy'
    exact (sameOps_any x.l x.l x.p y.p x.c y.c V (by have := HY.out.eo x mx; omega) (by have := HY.out.eo x mx; omega) (own_lies recCells_len hx) (own_lies recCells_len hy)).mono fun e W' ⟨h1, h2⟩ => ⟨by rw [h1, recsB_self], h2⟩
/-- Two lists of a kind, held against each other. -/
theorem pair_h {u v : Value} (h1 : Bk celRow 85 30 1025 u Y.h1 W) (h2 : Bk celRow 85 30 1025 v Y.h2 W) (hY : Y.Ok m) {n : Nat} (hn : n < Y.h1.length) : ∃ (g0 c0 g1 c1 : Nat) (xp : Option Addr) (xn xc : Nat) (yp : Option Addr) (yc : Nat), u = .slice (some ⟨g0, 0, none⟩) Y.h1.length c0 ∧ v = .slice (some ⟨g1, 0, none⟩) Y.h1.length c1 ∧
    ∀ V, Below W.heap.size W V → V.cell? ⟨g0, n, none⟩ = some (.slice xp xn xc) ∧ V.cell? ⟨g1, n, none⟩ = some (.slice yp xn yc) ∧ Calls Try.prog 19 #[.slice xp xn xc, .slice yp xn yc] V fun e W' => e = .returned (.bool true) ∧ Below V.heap.size V W' := by
  have HY := Hid.mk' hY
  have hl : Y.h1.length = Y.h2.length := by have := congrArg List.length hY.h; simpa using this
  obtain ⟨x, y, e1, e2, e3, mx, my⟩ := tl_pair hY.h hn
  obtain ⟨g0, c0, rfl, l0, k0⟩ := bk_row h1 e1
  obtain ⟨g1, c1, rfl, l1, k1⟩ := bk_row h2 e2
  refine ⟨g0, c0, g1, c1, x.p, x.l.length, x.c, y.p, y.c, rfl, by rw [hl], fun V hb => ⟨(hb.cell (p := ⟨g0, n, none⟩) l0).trans k0, ?_, ?_⟩⟩
  · rw [(hb.cell (p := ⟨g1, n, none⟩) l1).trans k1, e3]
    rfl
  · have hx := own_later (h1.own x mx) hb
    have hy := own_later (h2.own y my) hb
    have hy' : V.ownsRow 0 85 1025 (.slice y.p x.l.length y.c) x.l.length (x.l.flatMap celRow) := by rw [e3]; exact hy
    clear hy
    have hy := hy'
    exact (sameHelds_any x.l x.l x.p y.p x.c y.c V (by have := HY.out.eh x mx; omega) (by have := HY.out.eh x mx; omega) (lies_img (own_lies celRow_len hx)) (lies_img (own_lies celRow_len hy))).mono fun e W' ⟨h1, h2⟩ => ⟨by rw [h1, celsB_same], h2⟩
/-- The three kinds told apart, one behind the other. -/
theorem apart_chain (h : Sep w W (bkL gy v0 v1 v2 v3 v4 v5 Y l)) (hY : Y.Ok m) (hm : m ≤ 8000000) : Calls Try.prog 58 #[v0] W fun e W1 => e = .returned (.bool true) ∧ W1.cell? ⟨gy, 2, none⟩ = some v2 ∧ Calls Try.prog 59 #[v2] W1 fun e W2 => e = .returned (.bool true) ∧ W2.cell? ⟨gy, 4, none⟩ = some v4 ∧ Calls Try.prog 22 #[v4] W2 fun e W3 => e = .returned (.bool true) ∧ Below w.heap.size w W3 := by
  have hl := hY.li
  have ho := hY.lo
  have hh := hY.lh
  have hq0 : Sep w W (bkP enI 3 65 1 v0 Y.i1 :: boxP gy (.cells #[v0, v1, v2, v3, v4, v5] 39) :: bkP enI 3 65 1 v1 Y.i2 :: bkP recCells 108 67 1026 v2 Y.o1 :: bkP recCells 108 67 1026 v3 Y.o2 :: bkP celRow 85 30 1025 v4 Y.h1 :: bkP celRow 85 30 1025 v5 Y.h2 :: l) := Sep.swap h
  refine (sep_apartI hq0 (by omega) hY.ei).mono fun e W1 ⟨k1, s1⟩ => ⟨k1, Joins.cell_of_block (show W1.heap[gy]? = some (.cells #[v0, v1, v2, v3, v4, v5] 39) from s1.head) 2, ?_⟩
  have hq1 : Sep w W1 (bkP recCells 108 67 1026 v2 Y.o1 :: boxP gy (.cells #[v0, v1, v2, v3, v4, v5] 39) :: bkP enI 3 65 1 v1 Y.i2 :: bkP recCells 108 67 1026 v3 Y.o2 :: bkP celRow 85 30 1025 v4 Y.h1 :: bkP celRow 85 30 1025 v5 Y.h2 :: l) := s1.third
  refine (sep_apartO hq1 (by omega) hY.eo).mono fun e W2 ⟨k2, s2⟩ => ⟨k2, Joins.cell_of_block (show W2.heap[gy]? = some (.cells #[v0, v1, v2, v3, v4, v5] 39) from s2.head) 4, ?_⟩
  have hq2 : Sep w W2 (bkP celRow 85 30 1025 v4 Y.h1 :: ([boxP gy (.cells #[v0, v1, v2, v3, v4, v5] 39), bkP enI 3 65 1 v1 Y.i2, bkP recCells 108 67 1026 v3 Y.o2] ++ (bkP celRow 85 30 1025 v5 Y.h2 :: l))) := s2.perm (List.perm_middle (l₁ := [boxP gy (.cells #[v0, v1, v2, v3, v4, v5] 39), bkP enI 3 65 1 v1 Y.i2, bkP recCells 108 67 1026 v3 Y.o2]))
  exact (sep_apartH hq2 (by omega) hY.eh).mono fun e W3 ⟨k3, s3⟩ => ⟨k3, s3.below⟩
set_option maxRecDepth 20000 in
set_option maxHeartbeats 4000000 in
theorem right_any (h : Sep w W (bkL gy v0 v1 v2 v3 v4 v5 Y l)) (hY : Y.Ok m) (hm : m ≤ 8000000) :
    Calls Try.prog 14 #[.pointer (some ⟨gy, 0, none⟩)] W fun e W' => e = .returned (.bool true) ∧ Below w.heap.size w W' := by
  have hrow : W.heap[gy]? = some (.cells #[v0, v1, v2, v3, v4, v5] 39) := h.head
  have hglt := (Array.getElem?_eq_some_iff.1 hrow).1
  have b0 : Bk enI 3 65 1 v0 Y.i1 W := h.say (bkP enI 3 65 1 v0 Y.i1) (by simp [bkL])
  have b1 : Bk enI 3 65 1 v1 Y.i2 W := h.say (bkP enI 3 65 1 v1 Y.i2) (by simp [bkL])
  obtain ⟨p0, c0, rfl, -⟩ := own_slice b0.row
  have HP0 : Hid (∀ n, n < Y.i1.length → _) := fun n hn => pair_i b0 b1 hY hn
  have b2 : Bk recCells 108 67 1026 v2 Y.o1 W := h.say (bkP recCells 108 67 1026 v2 Y.o1) (by simp [bkL])
  have b3 : Bk recCells 108 67 1026 v3 Y.o2 W := h.say (bkP recCells 108 67 1026 v3 Y.o2) (by simp [bkL])
  obtain ⟨p2, c2, rfl, -⟩ := own_slice b2.row
  have HP1 : Hid (∀ n, n < Y.o1.length → _) := fun n hn => pair_o b2 b3 hY hn
  have b4 : Bk celRow 85 30 1025 v4 Y.h1 W := h.say (bkP celRow 85 30 1025 v4 Y.h1) (by simp [bkL])
  have b5 : Bk celRow 85 30 1025 v5 Y.h2 W := h.say (bkP celRow 85 30 1025 v5 Y.h2) (by simp [bkL])
  obtain ⟨p4, c4, rfl, -⟩ := own_slice b4.row
  have HP2 : Hid (∀ n, n < Y.h1.length → _) := fun n hn => pair_h b4 b5 hY hn
  have HC : Hid (∀ V, Below W.heap.size W V → ∀ i, V.cell? ⟨gy, i, none⟩ = #[Value.slice p0 Y.i1.length c0, v1, .slice p2 Y.o1.length c2, v3, .slice p4 Y.h1.length c4, v5][i]?) := fun V hb i => (hb.cell (p := ⟨gy, i, none⟩) hglt).trans (Joins.cell_of_block hrow i)
  have n1 := hY.li
  have n2 := hY.lo
  have n3 := hY.lh
  have HH := Hid.mk' h
  have HY := Hid.mk' hY
  clear h hY hrow hglt b0 b1 b2 b3 b4 b5
  obtain ⟨N0, hN0⟩ : ∃ N, Y.i1.length = N := ⟨_, rfl⟩
  obtain ⟨N1, hN1⟩ : ∃ N, Y.o1.length = N := ⟨_, rfl⟩
  obtain ⟨N2, hN2⟩ : ∃ N, Y.h1.length = N := ⟨_, rfl⟩
  rw [hN0] at n1
  rw [hN1] at n2
  rw [hN2] at n3
  rw [hN0, hN1, hN2] at HC
  rw [hN0] at HP0
  rw [hN1] at HP1
  rw [hN2] at HP2
  have HN := Hid.mk' (And.intro hN0 (And.intro hN1 hN2))
  clear hN0 hN1 hN2
  go_enter Try.func14, Try.ntmps14
  go_wp2
  go_loopw [3] (fun s3 wx => ∃ i : Nat, i ≤ N0 ∧ s3 = .int .i64 i ∧ Hid (Below W.heap.size W wx)) (fun s3 _ => N0 - (intOf s3).toNat)
  case atStart => exact ⟨0, by omega, rfl, Below.refl _ _⟩
  case round =>
    
    obtain ⟨i0, hi0, rfl, HB⟩ := hrel
    have d0 : wr.cell? ⟨gy, 0, none⟩ = some (.slice p0 N0 c0) := HC.out wr HB.out 0
    by_cases hj : (i0 : Int) < N0
    · obtain ⟨g0, e0, g1, e1, xp, xn, xc, yp, yc, hu, hv, hcall⟩ := HP0.out i0 (by omega)
      injection hu with hu1 hu2 hu3
      subst hu1
      have hd1 : wr.cell? ⟨gy, 1, none⟩ = some (.slice (some ⟨g1, 0, none⟩) N0 e1) := by rw [HC.out wr HB.out 1]; show some v1 = _; rw [hv]
      obtain ⟨hd2, hd3, hd4⟩ := hcall wr HB.out
      obtain ⟨-, -, hd5⟩ := hcall wr.drew (HB.out.drew)
      have HS0 := Hid.mk' (And.intro d0 (And.intro hd1 (And.intro hd2 hd3)))
      have HCl := Hid.mk' hcall
      have HD5 := Hid.mk' hd5
      clear hd1 hd2 hd3 hd4 hd5 hcall hu2 hu3 hv
      go_wp2
      refine wp_region_ord (S := fun u => u.cell? ⟨gy, 0, none⟩ = some (.slice (some ⟨g0, 0, none⟩) N0 c0) ∧ u.cell? ⟨gy, 1, none⟩ = some (.slice (some ⟨g1, 0, none⟩) N0 e1) ∧ u.cell? ⟨g0, i0, none⟩ = some (.slice xp xn xc) ∧ u.cell? ⟨g1, i0, none⟩ = some (.slice yp xn yc)) [(0, true), (1, true), (2, true), (3, true), (4, true), (5, true), (6, true), (7, true), (8, true), (9, true), (10, true), (11, true), (12, true), (13, true), (14, false), (15, true)]
        (by kernel_rfl) rfl (by kernel_rfl) (fun d _ _ _ _ h => by cases d <;> exact h) HS0.out ?_
      simp only [inOrd, List.getElem?_cons_zero, List.getElem?_cons_succ]
      refine wpOrd_yield (v := .pointer (some ⟨gy, 0, none⟩)) rfl (fun u _ => exec_mv rfl rfl) ?_
      simp only [Act.put, List.setIfInBounds_toArray, List.set_cons_succ, List.set_cons_zero]
      refine wpOrd_yield (v := .pointer (some ⟨gy, 0, none⟩)) rfl (fun u _ => by go_simp) ?_
      simp only [Act.put, List.setIfInBounds_toArray, List.set_cons_succ, List.set_cons_zero]
      refine wpOrd_yield (v := .pointer (some ⟨gy, 0, none⟩)) rfl (fun u _ => by go_simp) ?_
      simp only [Act.put, List.setIfInBounds_toArray, List.set_cons_succ, List.set_cons_zero]
      refine wpOrd_yield (v := .slice (some ⟨g0, 0, none⟩) N0 c0) rfl (fun u hu => by have hq := hu.1; go_simp) ?_
      simp only [Act.put, List.setIfInBounds_toArray, List.set_cons_succ, List.set_cons_zero]
      refine wpOrd_yield (v := .int .i64 (i0 : Int)) rfl (fun u _ => exec_mv rfl rfl) ?_
      simp only [Act.put, List.setIfInBounds_toArray, List.set_cons_succ, List.set_cons_zero]
      refine wpOrd_yield (v := .pointer (some ⟨g0, i0, none⟩)) rfl (fun u _ => by go_simp) ?_
      simp only [Act.put, List.setIfInBounds_toArray, List.set_cons_succ, List.set_cons_zero]
      refine wpOrd_yield (v := .slice xp xn xc) rfl (fun u hu => by have hq := hu.2.2.1; go_simp) ?_
      simp only [Act.put, List.setIfInBounds_toArray, List.set_cons_succ, List.set_cons_zero]
      refine wpOrd_yield (v := .pointer (some ⟨gy, 0, none⟩)) rfl (fun u _ => exec_mv rfl rfl) ?_
      simp only [Act.put, List.setIfInBounds_toArray, List.set_cons_succ, List.set_cons_zero]
      refine wpOrd_yield (v := .pointer (some ⟨gy, 0, none⟩)) rfl (fun u _ => by go_simp) ?_
      simp only [Act.put, List.setIfInBounds_toArray, List.set_cons_succ, List.set_cons_zero]
      refine wpOrd_yield (v := .pointer (some ⟨gy, 1, none⟩)) rfl (fun u _ => by go_simp) ?_
      simp only [Act.put, List.setIfInBounds_toArray, List.set_cons_succ, List.set_cons_zero]
      refine wpOrd_yield (v := .slice (some ⟨g1, 0, none⟩) N0 e1) rfl (fun u hu => by have hq := hu.2.1; go_simp) ?_
      simp only [Act.put, List.setIfInBounds_toArray, List.set_cons_succ, List.set_cons_zero]
      refine wpOrd_yield (v := .int .i64 (i0 : Int)) rfl (fun u _ => exec_mv rfl rfl) ?_
      simp only [Act.put, List.setIfInBounds_toArray, List.set_cons_succ, List.set_cons_zero]
      refine wpOrd_yield (v := .pointer (some ⟨g1, i0, none⟩)) rfl (fun u _ => by go_simp) ?_
      simp only [Act.put, List.setIfInBounds_toArray, List.set_cons_succ, List.set_cons_zero]
      refine wpOrd_yield (v := .slice yp xn yc) rfl (fun u hu => by have hq := hu.2.2.2; go_simp) ?_
      simp only [Act.put, List.setIfInBounds_toArray, List.set_cons_succ, List.set_cons_zero]
      refine wpOrd_call rfl 56 _ _ rfl Try.call56 [.slice xp xn xc, .slice yp xn yc] rfl ?_
      refine Calls.mono HD5.out ?_
      rintro e V1 ⟨rfl, hb1⟩
      have hB1 : Below W.heap.size W V1 := HB.out.drew.trans (hb1.mono (by have := HB.out.size; exact this))
      obtain ⟨r2, r3, -⟩ := HCl.out V1 hB1
      have r0 : V1.cell? ⟨gy, 0, none⟩ = some (.slice (some ⟨g0, 0, none⟩) N0 c0) := HC.out V1 hB1 0
      have r1 : V1.cell? ⟨gy, 1, none⟩ = some (.slice (some ⟨g1, 0, none⟩) N0 e1) := by rw [HC.out V1 hB1 1, ← HC.out wr HB.out 1]; exact HS0.out.2.1
      refine ⟨_, rfl, ⟨r0, r1, r2, r3⟩, ?_⟩
      simp only [Act.put, List.setIfInBounds_toArray, List.set_cons_succ, List.set_cons_zero]
      have HB1 := Hid.mk' hB1
      clear hB1 r0 r1 r2 r3 HCl HD5 HS0 hb1 HB
      refine wpOrd_yield (v := .bool false) rfl (fun u _ => by go_simp) ?_
      simp only [Act.put, List.setIfInBounds_toArray, List.set_cons_succ, List.set_cons_zero]
      refine wpOrd_nil ?_
      try simp only [Act.put]
      go_wp2
      exact ⟨⟨i0 + 1, by omega, by go_num, HB1.out⟩, by simp [intOf]; omega⟩
    · obtain rfl : i0 = N0 := by omega
      go_wp2
      go_loopw [4] (fun s4 wx => ∃ i : Nat, i ≤ N1 ∧ s4 = .int .i64 i ∧ Hid (Below W.heap.size W wx)) (fun s4 _ => N1 - (intOf s4).toNat)
      case atStart => exact ⟨0, by omega, rfl, HB.out⟩
      case round =>
        clear HB
        obtain ⟨i1, hi1, rfl, HB⟩ := hrel
        have d0 : wr.cell? ⟨gy, 2, none⟩ = some (.slice p2 N1 c2) := HC.out wr HB.out 2
        by_cases hj : (i1 : Int) < N1
        · obtain ⟨g0, e0, g1, e1, xp, xn, xc, yp, yc, hu, hv, hcall⟩ := HP1.out i1 (by omega)
          injection hu with hu1 hu2 hu3
          subst hu1
          have hd1 : wr.cell? ⟨gy, 3, none⟩ = some (.slice (some ⟨g1, 0, none⟩) N1 e1) := by rw [HC.out wr HB.out 3]; show some v3 = _; rw [hv]
          obtain ⟨hd2, hd3, hd4⟩ := hcall wr HB.out
          obtain ⟨-, -, hd5⟩ := hcall wr.drew (HB.out.drew)
          have HS0 := Hid.mk' (And.intro d0 (And.intro hd1 (And.intro hd2 hd3)))
          have HCl := Hid.mk' hcall
          have HD5 := Hid.mk' hd5
          clear hd1 hd2 hd3 hd4 hd5 hcall hu2 hu3 hv
          go_wp2
          refine wp_region_ord (S := fun u => u.cell? ⟨gy, 2, none⟩ = some (.slice (some ⟨g0, 0, none⟩) N1 c2) ∧ u.cell? ⟨gy, 3, none⟩ = some (.slice (some ⟨g1, 0, none⟩) N1 e1) ∧ u.cell? ⟨g0, i1, none⟩ = some (.slice xp xn xc) ∧ u.cell? ⟨g1, i1, none⟩ = some (.slice yp xn yc)) [(0, true), (1, true), (2, true), (3, true), (4, true), (5, true), (6, true), (7, true), (8, true), (9, true), (10, true), (11, true), (12, true), (13, true), (14, false), (15, true)]
            (by kernel_rfl) rfl (by kernel_rfl) (fun d _ _ _ _ h => by cases d <;> exact h) HS0.out ?_
          simp only [inOrd, List.getElem?_cons_zero, List.getElem?_cons_succ]
          refine wpOrd_yield (v := .pointer (some ⟨gy, 0, none⟩)) rfl (fun u _ => exec_mv rfl rfl) ?_
          simp only [Act.put, List.setIfInBounds_toArray, List.set_cons_succ, List.set_cons_zero]
          refine wpOrd_yield (v := .pointer (some ⟨gy, 0, none⟩)) rfl (fun u _ => by go_simp) ?_
          simp only [Act.put, List.setIfInBounds_toArray, List.set_cons_succ, List.set_cons_zero]
          refine wpOrd_yield (v := .pointer (some ⟨gy, 2, none⟩)) rfl (fun u _ => by go_simp) ?_
          simp only [Act.put, List.setIfInBounds_toArray, List.set_cons_succ, List.set_cons_zero]
          refine wpOrd_yield (v := .slice (some ⟨g0, 0, none⟩) N1 c2) rfl (fun u hu => by have hq := hu.1; go_simp) ?_
          simp only [Act.put, List.setIfInBounds_toArray, List.set_cons_succ, List.set_cons_zero]
          refine wpOrd_yield (v := .int .i64 (i1 : Int)) rfl (fun u _ => exec_mv rfl rfl) ?_
          simp only [Act.put, List.setIfInBounds_toArray, List.set_cons_succ, List.set_cons_zero]
          refine wpOrd_yield (v := .pointer (some ⟨g0, i1, none⟩)) rfl (fun u _ => by go_simp) ?_
          simp only [Act.put, List.setIfInBounds_toArray, List.set_cons_succ, List.set_cons_zero]
          refine wpOrd_yield (v := .slice xp xn xc) rfl (fun u hu => by have hq := hu.2.2.1; go_simp) ?_
          simp only [Act.put, List.setIfInBounds_toArray, List.set_cons_succ, List.set_cons_zero]
          refine wpOrd_yield (v := .pointer (some ⟨gy, 0, none⟩)) rfl (fun u _ => exec_mv rfl rfl) ?_
          simp only [Act.put, List.setIfInBounds_toArray, List.set_cons_succ, List.set_cons_zero]
          refine wpOrd_yield (v := .pointer (some ⟨gy, 0, none⟩)) rfl (fun u _ => by go_simp) ?_
          simp only [Act.put, List.setIfInBounds_toArray, List.set_cons_succ, List.set_cons_zero]
          refine wpOrd_yield (v := .pointer (some ⟨gy, 3, none⟩)) rfl (fun u _ => by go_simp) ?_
          simp only [Act.put, List.setIfInBounds_toArray, List.set_cons_succ, List.set_cons_zero]
          refine wpOrd_yield (v := .slice (some ⟨g1, 0, none⟩) N1 e1) rfl (fun u hu => by have hq := hu.2.1; go_simp) ?_
          simp only [Act.put, List.setIfInBounds_toArray, List.set_cons_succ, List.set_cons_zero]
          refine wpOrd_yield (v := .int .i64 (i1 : Int)) rfl (fun u _ => exec_mv rfl rfl) ?_
          simp only [Act.put, List.setIfInBounds_toArray, List.set_cons_succ, List.set_cons_zero]
          refine wpOrd_yield (v := .pointer (some ⟨g1, i1, none⟩)) rfl (fun u _ => by go_simp) ?_
          simp only [Act.put, List.setIfInBounds_toArray, List.set_cons_succ, List.set_cons_zero]
          refine wpOrd_yield (v := .slice yp xn yc) rfl (fun u hu => by have hq := hu.2.2.2; go_simp) ?_
          simp only [Act.put, List.setIfInBounds_toArray, List.set_cons_succ, List.set_cons_zero]
          refine wpOrd_call rfl 57 _ _ rfl Try.call57 [.slice xp xn xc, .slice yp xn yc] rfl ?_
          refine Calls.mono HD5.out ?_
          rintro e V1 ⟨rfl, hb1⟩
          have hB1 : Below W.heap.size W V1 := HB.out.drew.trans (hb1.mono (by have := HB.out.size; exact this))
          obtain ⟨r2, r3, -⟩ := HCl.out V1 hB1
          have r0 : V1.cell? ⟨gy, 2, none⟩ = some (.slice (some ⟨g0, 0, none⟩) N1 c2) := HC.out V1 hB1 2
          have r1 : V1.cell? ⟨gy, 3, none⟩ = some (.slice (some ⟨g1, 0, none⟩) N1 e1) := by rw [HC.out V1 hB1 3, ← HC.out wr HB.out 3]; exact HS0.out.2.1
          refine ⟨_, rfl, ⟨r0, r1, r2, r3⟩, ?_⟩
          simp only [Act.put, List.setIfInBounds_toArray, List.set_cons_succ, List.set_cons_zero]
          have HB1 := Hid.mk' hB1
          clear hB1 r0 r1 r2 r3 HCl HD5 HS0 hb1 HB
          refine wpOrd_yield (v := .bool false) rfl (fun u _ => by go_simp) ?_
          simp only [Act.put, List.setIfInBounds_toArray, List.set_cons_succ, List.set_cons_zero]
          refine wpOrd_nil ?_
          try simp only [Act.put]
          go_wp2
          exact ⟨⟨i1 + 1, by omega, by go_num, HB1.out⟩, by simp [intOf]; omega⟩
        · obtain rfl : i1 = N1 := by omega
          go_wp2
          go_loopw [5] (fun s5 wx => ∃ i : Nat, i ≤ N2 ∧ s5 = .int .i64 i ∧ Hid (Below W.heap.size W wx)) (fun s5 _ => N2 - (intOf s5).toNat)
          case atStart => exact ⟨0, by omega, rfl, HB.out⟩
          case round =>
            clear HB
            obtain ⟨i2, hi2, rfl, HB⟩ := hrel
            have d0 : wr.cell? ⟨gy, 4, none⟩ = some (.slice p4 N2 c4) := HC.out wr HB.out 4
            by_cases hj : (i2 : Int) < N2
            · obtain ⟨g0, e0, g1, e1, xp, xn, xc, yp, yc, hu, hv, hcall⟩ := HP2.out i2 (by omega)
              injection hu with hu1 hu2 hu3
              subst hu1
              have hd1 : wr.cell? ⟨gy, 5, none⟩ = some (.slice (some ⟨g1, 0, none⟩) N2 e1) := by rw [HC.out wr HB.out 5]; show some v5 = _; rw [hv]
              obtain ⟨hd2, hd3, hd4⟩ := hcall wr HB.out
              obtain ⟨-, -, hd5⟩ := hcall wr.drew (HB.out.drew)
              have HS0 := Hid.mk' (And.intro d0 (And.intro hd1 (And.intro hd2 hd3)))
              have HCl := Hid.mk' hcall
              have HD5 := Hid.mk' hd5
              clear hd1 hd2 hd3 hd4 hd5 hcall hu2 hu3 hv
              go_wp2
              refine wp_region_ord (S := fun u => u.cell? ⟨gy, 4, none⟩ = some (.slice (some ⟨g0, 0, none⟩) N2 c4) ∧ u.cell? ⟨gy, 5, none⟩ = some (.slice (some ⟨g1, 0, none⟩) N2 e1) ∧ u.cell? ⟨g0, i2, none⟩ = some (.slice xp xn xc) ∧ u.cell? ⟨g1, i2, none⟩ = some (.slice yp xn yc)) [(0, true), (1, true), (2, true), (3, true), (4, true), (5, true), (6, true), (7, true), (8, true), (9, true), (10, true), (11, true), (12, true), (13, true), (14, false), (15, true)]
                (by kernel_rfl) rfl (by kernel_rfl) (fun d _ _ _ _ h => by cases d <;> exact h) HS0.out ?_
              simp only [inOrd, List.getElem?_cons_zero, List.getElem?_cons_succ]
              refine wpOrd_yield (v := .pointer (some ⟨gy, 0, none⟩)) rfl (fun u _ => exec_mv rfl rfl) ?_
              simp only [Act.put, List.setIfInBounds_toArray, List.set_cons_succ, List.set_cons_zero]
              refine wpOrd_yield (v := .pointer (some ⟨gy, 0, none⟩)) rfl (fun u _ => by go_simp) ?_
              simp only [Act.put, List.setIfInBounds_toArray, List.set_cons_succ, List.set_cons_zero]
              refine wpOrd_yield (v := .pointer (some ⟨gy, 4, none⟩)) rfl (fun u _ => by go_simp) ?_
              simp only [Act.put, List.setIfInBounds_toArray, List.set_cons_succ, List.set_cons_zero]
              refine wpOrd_yield (v := .slice (some ⟨g0, 0, none⟩) N2 c4) rfl (fun u hu => by have hq := hu.1; go_simp) ?_
              simp only [Act.put, List.setIfInBounds_toArray, List.set_cons_succ, List.set_cons_zero]
              refine wpOrd_yield (v := .int .i64 (i2 : Int)) rfl (fun u _ => exec_mv rfl rfl) ?_
              simp only [Act.put, List.setIfInBounds_toArray, List.set_cons_succ, List.set_cons_zero]
              refine wpOrd_yield (v := .pointer (some ⟨g0, i2, none⟩)) rfl (fun u _ => by go_simp) ?_
              simp only [Act.put, List.setIfInBounds_toArray, List.set_cons_succ, List.set_cons_zero]
              refine wpOrd_yield (v := .slice xp xn xc) rfl (fun u hu => by have hq := hu.2.2.1; go_simp) ?_
              simp only [Act.put, List.setIfInBounds_toArray, List.set_cons_succ, List.set_cons_zero]
              refine wpOrd_yield (v := .pointer (some ⟨gy, 0, none⟩)) rfl (fun u _ => exec_mv rfl rfl) ?_
              simp only [Act.put, List.setIfInBounds_toArray, List.set_cons_succ, List.set_cons_zero]
              refine wpOrd_yield (v := .pointer (some ⟨gy, 0, none⟩)) rfl (fun u _ => by go_simp) ?_
              simp only [Act.put, List.setIfInBounds_toArray, List.set_cons_succ, List.set_cons_zero]
              refine wpOrd_yield (v := .pointer (some ⟨gy, 5, none⟩)) rfl (fun u _ => by go_simp) ?_
              simp only [Act.put, List.setIfInBounds_toArray, List.set_cons_succ, List.set_cons_zero]
              refine wpOrd_yield (v := .slice (some ⟨g1, 0, none⟩) N2 e1) rfl (fun u hu => by have hq := hu.2.1; go_simp) ?_
              simp only [Act.put, List.setIfInBounds_toArray, List.set_cons_succ, List.set_cons_zero]
              refine wpOrd_yield (v := .int .i64 (i2 : Int)) rfl (fun u _ => exec_mv rfl rfl) ?_
              simp only [Act.put, List.setIfInBounds_toArray, List.set_cons_succ, List.set_cons_zero]
              refine wpOrd_yield (v := .pointer (some ⟨g1, i2, none⟩)) rfl (fun u _ => by go_simp) ?_
              simp only [Act.put, List.setIfInBounds_toArray, List.set_cons_succ, List.set_cons_zero]
              refine wpOrd_yield (v := .slice yp xn yc) rfl (fun u hu => by have hq := hu.2.2.2; go_simp) ?_
              simp only [Act.put, List.setIfInBounds_toArray, List.set_cons_succ, List.set_cons_zero]
              refine wpOrd_call rfl 19 _ _ rfl Try.call19 [.slice xp xn xc, .slice yp xn yc] rfl ?_
              refine Calls.mono HD5.out ?_
              rintro e V1 ⟨rfl, hb1⟩
              have hB1 : Below W.heap.size W V1 := HB.out.drew.trans (hb1.mono (by have := HB.out.size; exact this))
              obtain ⟨r2, r3, -⟩ := HCl.out V1 hB1
              have r0 : V1.cell? ⟨gy, 4, none⟩ = some (.slice (some ⟨g0, 0, none⟩) N2 c4) := HC.out V1 hB1 4
              have r1 : V1.cell? ⟨gy, 5, none⟩ = some (.slice (some ⟨g1, 0, none⟩) N2 e1) := by rw [HC.out V1 hB1 5, ← HC.out wr HB.out 5]; exact HS0.out.2.1
              refine ⟨_, rfl, ⟨r0, r1, r2, r3⟩, ?_⟩
              simp only [Act.put, List.setIfInBounds_toArray, List.set_cons_succ, List.set_cons_zero]
              have HB1 := Hid.mk' hB1
              clear hB1 r0 r1 r2 r3 HCl HD5 HS0 hb1 HB
              refine wpOrd_yield (v := .bool false) rfl (fun u _ => by go_simp) ?_
              simp only [Act.put, List.setIfInBounds_toArray, List.set_cons_succ, List.set_cons_zero]
              refine wpOrd_nil ?_
              try simp only [Act.put]
              go_wp2
              exact ⟨⟨i2 + 1, by omega, by go_num, HB1.out⟩, by simp [intOf]; omega⟩
            · obtain rfl : i2 = N2 := by omega
              skip
              have x0 : wr.cell? ⟨gy, 0, none⟩ = some _ := HC.out wr HB.out 0
              have hA0 := apart_chain (HH.out.later HB.out) HY.out hm
              rw [HN.out.1, HN.out.2.1, HN.out.2.2] at hA0
              have HA0 := Hid.mk' hA0
              clear hA0 HP0 HP1 HP2 HH HC HY HN HB
              go_wp2_with (go_at_call 58; fail)
              refine Calls.mono HA0.out ?_
              rintro e V1 ⟨rfl, r1, hA1⟩
              have HA1 := Hid.mk' hA1
              clear hA1 HA0 d0 x0
              go_wp2_with (go_at_call 59; fail)
              refine Calls.mono HA1.out ?_
              rintro e V2 ⟨rfl, r2, hA2⟩
              have HA2 := Hid.mk' hA2
              clear hA2 HA1 r1
              go_wp2_with (go_at_call 22; fail)
              refine Calls.mono HA2.out ?_
              rintro e V3 ⟨rfl, s3⟩
              have HZ := Hid.mk' s3
              clear s3 HA2 r2
              go_wp2
              go_ret
              exact ⟨rfl, HZ.out⟩
end Go.Proofs.Ytembocfghkmieaa
