/- RouteCalls: the law's walk; the names' texts have together at most 2 to the 20th bytes. -/
import Derived.Test.YtadljgaadjajdaaRt10
namespace Go.Proofs.Ytadljgaadjajdaa
open Go.RowKit Go.Maps
theorem OwnS.base {w : World} {B B2 : Nat} {v : Value} {l : List ByteArray} (h : OwnS w B v l) (hb : B2 ≤ B) : OwnS w B2 v l := by
  refine ⟨h.1, ?_⟩
  rcases h.2 with h | ⟨g, c, r, e, h1, h2⟩
  · exact .inl h
  · exact .inr ⟨g, c, r, e, Nat.le_trans hb h1, h2⟩
theorem OwnS.lt {w : World} {B : Nat} {v : Value} {l : List ByteArray} (h : OwnS w B v l) : ∀ k, v.ownBlock = some k → B ≤ k ∧ k < w.heap.size := fun k hk => World.ownsRow.lt h k hk
theorem OwnS.frame {w w' : World} {B : Nat} {v : Value} {l : List ByteArray} {T : Nat → Prop} (h : OwnS w B v l) (hf : Fr T w w') (hT : ∀ i, v.ownBlock = some i → ¬ T i) : OwnS w' B v l := own_frame h hf hT
/-- What the document's Parse tells, for a walk. -/
theorem refParse_own (s : ByteArray) (w : World) (hs : s.size ≤ 9223372036854775807) :
    Calls Try.prog 8 #[.string s] w fun e w' => ∃ v, e = .returned (.tuple #[v, .int .i64 (prE (bl s))]) ∧ OwnS w' w.heap.size v ((prL (bl s)).map mkT) ∧ Below w.heap.size w w' := refParse_any s w hs
theorem prL_few (l : List UInt8) : (prL l).length ≤ 1025 := by
  by_cases h : prE l = 0
  · rw [prL_zero h]
    have h1 := nms_len l
    have h2 := ((okL_iff l).1 (prE_zero h).1).2.1
    omega
  · rw [prL_none h]; simp
set_option maxRecDepth 20000 in
set_option maxHeartbeats 8000000 in
theorem calls_walk (s : ByteArray) (hs : s.size ≤ 9223372036854775807) (l : List ByteArray) (p : Option Addr) (n c : Nat) (hn : l.length = n) (hcap : p = none → c = 0) (w : World) (hl : n ≤ 9223372036854775807) (hj : (jl (bls l)).length ≤ 1048576) (h : TxAt w p l) :
    Calls Try.prog 3 #[.string s, .slice p n c] w fun e w' => e = .returned (.bool true) ∧ Below w.heap.size w w' := by
  by_cases h300 : 300 < n
  · have g0 : decide ((300 : Int) < (n : Int)) = true := decide_eq_true (by omega)
    clear h hcap hj
    go_enter Try.func3, Try.ntmps3
    go_wp2
    go_ret
    exact ⟨rfl, Below.refl _ _⟩
  have g0 : decide ((300 : Int) < (n : Int)) = false := decide_eq_false (by omega)
  have HLn : Hid (l.length = n) := hn
  have HT : Hid (TxAt w p l) := h
  have HV : Hid _ := fun u => lives_any u
  have HP : Hid _ := fun u => parse_any s u hs
  have HR : Hid _ := fun u => refParse_own s u hs
  have HF : Hid ((prL (bl s)).length ≤ 1025) := prL_few (bl s)
  have HLent : Hid (∀ u, TxAt u p l → Calls Try.prog 9 #[.slice p n c] u fun e w' => ∃ v, e = .returned v ∧ OwnS w' u.heap.size v (l ++ marks 7 0 6) ∧ Below u.heap.size u w') := fun u hu => by
    have := lent_texts l p c hcap u (by rw [hn]; omega) hu
    rwa [hn] at this
  have HKept : Hid (∀ u q d, TxAt u p l → TxAt u q (l ++ marks 7 0 6) → Calls Try.prog 13 #[.slice q (n + 6) d, .slice p n c] u fun e w' => e = .returned (.bool true) ∧ Below u.heap.size u w') := fun u q d h1 h2 => by
    have := kept_texts l p q c d (n + 6) (by rw [hn]) hcap u (by rw [hn]; omega) h1 h2
    rwa [hn] at this
  have HJ1 : Hid (∀ u q d, TxAt u q l → Calls Try.prog 10 #[.slice q n d] u fun e w' => e = .returned (.string (jnT l)) ∧ Below u.heap.size u w') := fun u q d hu => join_known d n hu hn (by omega) (by omega) _ rfl
  have HJ2 : Hid (∀ u q d, TxAt u q l → Calls Try.prog 15 #[.slice q n d] u fun e w' => e = .returned (.string (jnT l)) ∧ w' = u) := fun u q d hu => by
    have := refJoin_any l q d u (by omega) hu (by omega)
    rwa [hn] at this
  have HS1 : Hid (∀ u q d, TxAt u q l → Calls Try.prog 11 #[.slice q n d] u fun e w' => e = .returned (.bool (spV l)) ∧ w' = u) := fun u q d hu => special_known d n hu hn (by omega) _ rfl
  have HS2 : Hid (∀ u q d, TxAt u q l → Calls Try.prog 16 #[.slice q n d] u fun e w' => e = .returned (.bool (spV l)) ∧ w' = u) := fun u q d hu => by
    have := refSpecial_any l q d u (by omega) hu
    rwa [hn] at this
  have hm : (l.map xT).length = n := by rw [List.length_map]; exact hn
  have hjx : (jl (bls (l.map xT))).length ≤ 140737488355327 := by rw [jl_x]; omega
  have HK1 : Hid (∀ u q d, TxAt u q (l.map xT) → Calls Try.prog 10 #[.slice q n d] u fun e w' => e = .returned (.string (jnT (l.map xT))) ∧ Below u.heap.size u w') := fun u q d hu => join_known d n hu hm (by omega) hjx _ rfl
  have HK2 : Hid (∀ u q d, TxAt u q (l.map xT) → Calls Try.prog 15 #[.slice q n d] u fun e w' => e = .returned (.string (jnT (l.map xT))) ∧ w' = u) := fun u q d hu => by
    have := refJoin_any (l.map xT) q d u (by omega) hu hjx
    rwa [hm] at this
  have HK3 : Hid (∀ u q d, TxAt u q (l.map xT) → Calls Try.prog 11 #[.slice q n d] u fun e w' => e = .returned (.bool (spV (l.map xT))) ∧ w' = u) := fun u q d hu => special_known d n hu hm (by omega) _ rfl
  have HK4 : Hid (∀ u q d, TxAt u q (l.map xT) → Calls Try.prog 16 #[.slice q n d] u fun e w' => e = .returned (.bool (spV (l.map xT))) ∧ w' = u) := fun u q d hu => by
    have := refSpecial_any (l.map xT) q d u (by omega) hu
    rwa [hm] at this
  have HCp : Hid (∀ u g d, TxAt u (some ⟨g, 0, none⟩) (l.map xT) → Calls Try.prog 14 #[.slice (some ⟨g, 0, none⟩) n d] u fun e w' => ∃ q c', e = .returned (.slice q n c') ∧ TxAt w' q (l.map xT) ∧ Below u.heap.size u w') := fun u g d hu => by
    have := copy_texts (l.map xT) (some ⟨g, 0, none⟩) d (fun q => by cases q) u (by rw [hm]; omega) hu
    rw [hm] at this
    refine this.mono fun e w' ⟨v, h1, h2, h3⟩ => ?_
    obtain ⟨q, c', e1, h4⟩ := OwnS.read h2
    rw [hm] at e1
    exact ⟨q, c', by rw [h1, e1], h4, h3⟩
  have HXs : Hid (∀ i (q : i < l.length), l[i].size ≤ 1048576) := fun i q => Nat.le_trans (size_le_jl q) hj
  clear hm hjx h hcap hj hn
  generalize prE (bl s) = E at *
  generalize hL : (prL (bl s)).map mkT = L at *
  have HM : Hid (L.length ≤ 1025) := by rw [← hL, List.length_map]; exact HF.out
  clear hL HF
  obtain ⟨m, hm⟩ : ∃ m, L.length = m := ⟨_, rfl⟩
  have HLm : Hid (L.length = m) := hm
  have HSm : Hid (∀ u q q' d d', TxAt u q L → TxAt u q' L → Calls Try.prog 12 #[.slice q m d, .slice q' m d'] u fun e w' => e = .returned (.bool true) ∧ Below u.heap.size u w') := fun u q q' d d' h1 h2 => same_known d d' m m h1 h2 hm hm (by rw [← hm]; have := HM.out; omega) true (by simp)
  clear hm
  generalize jnT (l.map xT) = J2 at *
  generalize jnT l = J1 at *
  generalize spV (l.map xT) = B2 at *
  generalize spV l = B1 at *
  have gB1 : (B1 == B1) = true := by simp
  have gB2 : (B2 == B2) = true := by simp
  go_enter Try.func3, Try.ntmps3
  go_wp2_with (first | (go_at_call 7; fail))
  refine (HP.out _).mono ?_
  rintro e w1 ⟨v1, rfl, ho, hb⟩
  have HB1 : Hid (Below w.heap.size w w1) := hb
  have HO1 : Hid (OwnS w1 w.heap.size v1 L) := ho
  have HZ1 : Hid (w.heap.size ≤ w1.heap.size) := hb.size
  clear hb ho
  go_wp2_with (first | (go_at_call 7; fail))
  refine (HP.out _).mono ?_
  rintro e w2 ⟨v2, rfl, ho, hb⟩
  have HB2 : Hid (Below w.heap.size w w2) := below_next HB1.out hb
  have HO2 : Hid (OwnS w2 w.heap.size v1 L) := OwnS.later HO1.out hb
  have HU2 : Hid (OwnS w2 w.heap.size v2 L) := OwnS.base ho HZ1.out
  have HAp : Hid (∀ b, v1.ownBlock = some b → v2.ownBlock ≠ some b) := fun b h1 h2 => by
    have := (OwnS.lt HO1.out b h1).2
    have := (OwnS.lt ho b h2).1
    omega
  clear hb ho HO1 HB1 HP HZ1
  go_wp2_with (first | (go_at_call 8; fail))
  refine (HR.out _).mono ?_
  rintro e w3 ⟨v3, rfl, ho, hb⟩
  have HB3 : Hid (Below w.heap.size w w3) := below_next HB2.out hb
  have HO3 : Hid (OwnS w3 w.heap.size v1 L) := OwnS.later HO2.out hb
  have HU3 : Hid (OwnS w3 w.heap.size v2 L) := OwnS.later HU2.out hb
  have HW3 : Hid (OwnS w3 w.heap.size v3 L) := OwnS.base ho HB2.out.size
  clear hb ho HO2 HU2 HB2 HR
  have HT3 : Hid (TxAt w3 p l) := TxAt.later HT.out HB3.out
  go_wp2_with (first | (go_at_call 9; fail))
  refine (HLent.out _ HT3.out).mono ?_
  rintro e w4 ⟨vF, rfl, ho, hb⟩
  have hlen : (l ++ marks 7 0 6).length = n + 6 := by rw [List.length_append, marks_len, HLn.out]
  obtain ⟨gF, cF, rfl, hcF⟩ : ∃ gF cF, vF = .slice (some ⟨gF, 0, none⟩) (n + 6) cF ∧ n + 6 ≤ cF := by
    rcases ho.2 with ⟨_, q⟩ | ⟨g, c2, cur, q, _, _, h3, _⟩
    · rw [hlen] at q; omega
    · rw [hlen] at q h3
      exact ⟨g, c2, q, h3⟩
  have HZ3 : Hid (w3.heap.size ≤ gF) := (OwnS.lt ho gF rfl).1
  have HB4 : Hid (Below w.heap.size w w4) := below_next HB3.out hb
  have HO4 : Hid (OwnS w4 w.heap.size v1 L) := OwnS.later HO3.out hb
  have HU4 : Hid (OwnS w4 w.heap.size v2 L) := OwnS.later HU3.out hb
  have HW4 : Hid (OwnS w4 w.heap.size v3 L) := OwnS.later HW3.out hb
  have HT4 : Hid (TxAt w4 p l) := TxAt.later HT3.out hb
  have HF4 : Hid (OwnS w4 w.heap.size (.slice (some ⟨gF, 0, none⟩) (n + 6) cF) (l ++ marks 7 0 6)) := OwnS.base ho HB3.out.size
  have HN1 : Hid (v1.ownBlock ≠ some gF) := fun q => by have := (OwnS.lt HO3.out gF q).2; have := HZ3.out; omega
  have HN2 : Hid (v2.ownBlock ≠ some gF) := fun q => by have := (OwnS.lt HU3.out gF q).2; have := HZ3.out; omega
  clear hb ho HO3 HU3 HW3 HT3 HB3 HZ3 HLent
  have txF : ∀ {u : World} {xs : List ByteArray} (_ : xs.length = n), OwnS u w.heap.size (.slice (some ⟨gF, 0, none⟩) (n + 6) cF) (xs ++ marks 7 0 6) → TxAt u (some ⟨gF, 0, none⟩) (xs ++ marks 7 0 6) := fun {u xs} hx hu => by
    obtain ⟨q, d, e1, h4⟩ := OwnS.read hu
    injection e1 with e1
    rw [e1]
    exact h4
  have HtxF : Hid (∀ {u : World} {xs : List ByteArray} (_ : xs.length = n), OwnS u w.heap.size (.slice (some ⟨gF, 0, none⟩) (n + 6) cF) (xs ++ marks 7 0 6) → TxAt u (some ⟨gF, 0, none⟩) (xs ++ marks 7 0 6)) := @txF
  clear txF hlen
  go_wp2_with (first | (go_at_call 10; fail))
  refine (HJ1.out _ _ _ (tx_prefix (HtxF.out HLn.out HF4.out))).mono ?_
  rintro e w5 ⟨rfl, hb⟩
  have HB5 : Hid (Below w.heap.size w w5) := below_next HB4.out hb
  have HO5 : Hid (OwnS w5 w.heap.size v1 L) := OwnS.later HO4.out hb
  have HU5 : Hid (OwnS w5 w.heap.size v2 L) := OwnS.later HU4.out hb
  have HW5 : Hid (OwnS w5 w.heap.size v3 L) := OwnS.later HW4.out hb
  have HT5 : Hid (TxAt w5 p l) := TxAt.later HT4.out hb
  have HF5 : Hid (OwnS w5 w.heap.size (.slice (some ⟨gF, 0, none⟩) (n + 6) cF) (l ++ marks 7 0 6)) := OwnS.later HF4.out hb
  clear hb HO4 HU4 HW4 HT4 HB4 HF4
  go_wp2_with (first | (go_at_call 11; fail))
  refine (HS1.out _ _ _ (tx_prefix (HtxF.out HLn.out HF5.out))).mono ?_
  rintro e wq ⟨rfl, hw⟩
  subst hw
  obtain ⟨p1, c1, e1, t1⟩ := OwnS.read HO5.out
  obtain ⟨p2, c2, e2, t2⟩ := OwnS.read HU5.out
  obtain ⟨p3, c3, e3, t3⟩ := OwnS.read HW5.out
  rw [HLm.out] at e1 e2 e3
  subst e1; subst e2; subst e3
  have H1 : Hid (TxAt wq p1 L) := t1
  have H2 : Hid (TxAt wq p2 L) := t2
  have H3 : Hid (TxAt wq p3 L) := t3
  clear t1 t2 t3 HW5
  go_wp2_with (first | (go_at_call 12; fail))
  refine (HSm.out _ _ _ _ _ H1.out H3.out).mono ?_
  rintro e w6 ⟨rfl, hb⟩
  have HB6 : Hid (Below w.heap.size w w6) := below_next HB5.out hb
  have HO6 : Hid (OwnS w6 w.heap.size (.slice p1 m c1) L) := OwnS.later HO5.out hb
  have HU6 : Hid (OwnS w6 w.heap.size (.slice p2 m c2) L) := OwnS.later HU5.out hb
  have HT6 : Hid (TxAt w6 p l) := TxAt.later HT5.out hb
  have HF6 : Hid (OwnS w6 w.heap.size (.slice (some ⟨gF, 0, none⟩) (n + 6) cF) (l ++ marks 7 0 6)) := OwnS.later HF5.out hb
  have HQ2 : Hid (TxAt w6 p2 L) := TxAt.later H2.out hb
  have HQ3 : Hid (TxAt w6 p3 L) := TxAt.later H3.out hb
  clear hb HO5 HU5 HT5 HB5 HF5 H1 H2 H3
  go_wp2_with (first | (go_at_call 12; fail))
  refine (HSm.out _ _ _ _ _ HQ2.out HQ3.out).mono ?_
  rintro e w7 ⟨rfl, hb⟩
  have HB7 : Hid (Below w.heap.size w w7) := below_next HB6.out hb
  have HO7 : Hid (OwnS w7 w.heap.size (.slice p1 m c1) L) := OwnS.later HO6.out hb
  have HU7 : Hid (OwnS w7 w.heap.size (.slice p2 m c2) L) := OwnS.later HU6.out hb
  have HT7 : Hid (TxAt w7 p l) := TxAt.later HT6.out hb
  have HF7 : Hid (OwnS w7 w.heap.size (.slice (some ⟨gF, 0, none⟩) (n + 6) cF) (l ++ marks 7 0 6)) := OwnS.later HF6.out hb
  clear hb HO6 HU6 HT6 HB6 HF6 HQ2 HQ3 HSm
  go_wp2_with (first | (go_at_call 13; fail))
  refine (HKept.out _ _ _ HT7.out (HtxF.out HLn.out HF7.out)).mono ?_
  rintro e w8 ⟨rfl, hb⟩
  have HB8 : Hid (Below w.heap.size w w8) := below_next HB7.out hb
  have HO8 : Hid (OwnS w8 w.heap.size (.slice p1 m c1) L) := OwnS.later HO7.out hb
  have HU8 : Hid (OwnS w8 w.heap.size (.slice p2 m c2) L) := OwnS.later HU7.out hb
  have HF8 : Hid (OwnS w8 w.heap.size (.slice (some ⟨gF, 0, none⟩) (n + 6) cF) (xL l 0 ++ marks 7 0 6)) := by
    rw [xL_zero]
    exact OwnS.later HF7.out hb
  clear hb HO7 HU7 HT7 HB7 HF7 HKept
  go_wp2
  go_loopw [15] (fun s15 wx => ∃ k : Nat, k ≤ n ∧ s15 = .int .i64 k ∧ Hid (Below w.heap.size w wx) ∧ Hid (OwnS wx w.heap.size (.slice p1 m c1) L) ∧ Hid (OwnS wx w.heap.size (.slice p2 m c2) L) ∧ Hid (OwnS wx w.heap.size (.slice (some ⟨gF, 0, none⟩) (n + 6) cF) (xL l k ++ marks 7 0 6))) (fun s15 _ => n - (intOf s15).toNat)
  case atStart => exact ⟨0, by omega, rfl, HB8.out, HO8.out, HU8.out, HF8.out⟩
  case round =>
    clear HB8 HO8 HU8 HF8
    obtain ⟨k, hk, rfl, HB, HO, HU, HX⟩ := hrel
    by_cases hk2 : (k : Int) < (n : Int)
    · have hkl : k < l.length := by rw [HLn.out]; omega
      have hx : (xL l k ++ marks 7 0 6)[k]? = some l[k] := by
        rw [List.getElem?_append_left (by rw [xL_len]; exact hkl)]
        exact xL_get l k hkl
      have c0 := OwnS.cell HX.out hx
      have hlen : (xL l k ++ marks 7 0 6).length = n + 6 := by rw [List.length_append, marks_len, xL_len, HLn.out]
      obtain ⟨cur, hg, hfit, hnew⟩ := OwnS.put HX.out hlen (i := k) (by omega) (xT l[k])
      rw [List.set_append_left _ _ (by rw [xL_len]; exact hkl), xL_set l k hkl] at hnew
      have hgF := (OwnS.lt HX.out gF rfl).1
      have HX2 : Hid _ := hnew
      have HB2 : Hid (Below w.heap.size w (wr.setRow gF (putE cur k (enT (xT l[k]))))) := below_setRow HB.out hgF _
      have HO2 : Hid _ := OwnS.frame HO.out (Fr.setRow wr gF (putE cur k (enT (xT l[k])))) fun i hi q => HN1.out (by rw [← q]; exact hi)
      have HU2 : Hid _ := OwnS.frame HU.out (Fr.setRow wr gF (putE cur k (enT (xT l[k])))) fun i hi q => HN2.out (by rw [← q]; exact hi)
      have hadd : ∀ u : World, (Op.stringOp .add l[k] (⟨#[120]⟩ : ByteArray)).run Try.prog u = .ok (.string (xT l[k])) u := add_str l[k] ⟨#[120]⟩ (by have : (⟨#[120]⟩ : ByteArray).size = 1 := rfl; have := HXs.out k hkl; omega)
      clear hnew hx hlen hgF HB HO HU HX
      generalize xT l[k] = y at *
      generalize l[k] = x at *
      go_wp2_with (first | (with_reducible refine isStoreR 9 ?_; refine wpList_stT rfl (.tmp 85) (.tmp 84) rfl gF k y cur rfl rfl hg hfit ?_))
      exact ⟨⟨k + 1, by omega, by go_num, HB2.out, HO2.out, HU2.out, HX2.out⟩, by simp [intOf]; omega⟩
    · have e : k = l.length := by rw [HLn.out]; omega
      have hX := HX.out
      rw [e, xL_full] at hX
      have HX2 : Hid (OwnS wr w.heap.size (.slice (some ⟨gF, 0, none⟩) (n + 6) cF) (l.map xT ++ marks 7 0 6)) := hX
      have HTx : Hid (∀ {u : World}, OwnS u w.heap.size (.slice (some ⟨gF, 0, none⟩) (n + 6) cF) (l.map xT ++ marks 7 0 6) → TxAt u (some ⟨gF, 0, none⟩) (l.map xT)) := fun {u} hu => tx_prefix (HtxF.out (by rw [List.length_map]; exact HLn.out) hu)
      clear hX HX e HtxF HXs
      go_wp2_with (first | (go_at_call 14; fail))
      refine (HCp.out _ _ _ (HTx.out HX2.out)).mono ?_
      rintro e V1 ⟨qN, cN, rfl, ht, hb⟩
      have HB1 : Hid (Below w.heap.size w V1) := below_next HB.out hb
      have HO1 : Hid (OwnS V1 w.heap.size (.slice p1 m c1) L) := OwnS.later HO.out hb
      have HU1 : Hid (OwnS V1 w.heap.size (.slice p2 m c2) L) := OwnS.later HU.out hb
      have HX1 : Hid (OwnS V1 w.heap.size (.slice (some ⟨gF, 0, none⟩) (n + 6) cF) (l.map xT ++ marks 7 0 6)) := OwnS.later HX2.out hb
      have HN : Hid (TxAt V1 qN (l.map xT)) := ht
      clear hb ht HB HO HU HX2 HCp
      go_wp2_with (first | (go_at_call 10; fail))
      refine (HK1.out _ _ _ (HTx.out HX1.out)).mono ?_
      rintro e V2 ⟨rfl, hb⟩
      have HB2 : Hid (Below w.heap.size w V2) := below_next HB1.out hb
      have HO2 : Hid (OwnS V2 w.heap.size (.slice p1 m c1) L) := OwnS.later HO1.out hb
      have HU2 : Hid (OwnS V2 w.heap.size (.slice p2 m c2) L) := OwnS.later HU1.out hb
      have HX2 : Hid (OwnS V2 w.heap.size (.slice (some ⟨gF, 0, none⟩) (n + 6) cF) (l.map xT ++ marks 7 0 6)) := OwnS.later HX1.out hb
      have HNn : Hid (TxAt V2 qN (l.map xT)) := TxAt.later HN.out hb
      clear hb HB1 HO1 HU1 HX1 HN HK1
      go_wp2_with (first | (go_at_call 15; fail))
      refine (HK2.out _ _ _ HNn.out).mono ?_
      rintro e Vq ⟨rfl, hw⟩
      subst hw
      clear HK2
      go_wp2_with (first | (go_at_call 11; fail))
      refine (HK3.out _ _ _ (HTx.out HX2.out)).mono ?_
      rintro e Vr ⟨rfl, hw⟩
      subst hw
      clear HK3
      go_wp2_with (first | (go_at_call 16; fail))
      refine (HK4.out _ _ _ HNn.out).mono ?_
      rintro e Vs ⟨rfl, hw⟩
      subst hw
      clear HK4 HNn HX2 HTx
      go_wp2_with (first | (go_at_call 17; fail))
      refine (HV.out _).mono ?_
      rintro e V3 ⟨rfl, hb⟩
      have HB3 : Hid (Below w.heap.size w V3) := below_next HB2.out hb
      have HO3 : Hid (OwnS V3 w.heap.size (.slice p1 m c1) L) := OwnS.later HO2.out hb
      have HU3 : Hid (OwnS V3 w.heap.size (.slice p2 m c2) L) := OwnS.later HU2.out hb
      have HT3 : Hid (TxAt V3 p l) := TxAt.later HT.out HB3.out
      clear hb HB2 HO2 HU2 HV
      go_wp2_with (first | (go_at_call 15; fail))
      refine (HJ2.out _ _ _ HT3.out).mono ?_
      rintro e Vt ⟨rfl, hw⟩
      subst hw
      clear HJ2
      go_wp2_with (first | (go_at_call 16; fail))
      refine (HS2.out _ _ _ HT3.out).mono ?_
      rintro e V4 ⟨rfl, hw⟩
      subst hw
      clear HS2 HT3
      have hbn := below_new V4 (.cells #[.slice p1 m c1, .slice p2 m c2] 22)
      have HA : Hid (Calls Try.prog 18 #[.slice (some ⟨V4.heap.size, 0, none⟩) 2 2] (V4.alloc (.cells #[.slice p1 m c1, .slice p2 m c2] 22)) fun e w' => e = .returned (.bool true) ∧ Below w.heap.size (V4.alloc (.cells #[.slice p1 m c1, .slice p2 m c2] 22)) w') :=
        apart_two HLm.out (by rw [← HLm.out]; have := HM.out; omega) (heap_alloc_new V4 _) (OwnS.later HO3.out hbn) (OwnS.later HU3.out hbn) HAp.out w.heap.size (fun b hb => (OwnS.lt HO3.out b hb).1) (fun b hb => (OwnS.lt HU3.out b hb).1) (Nat.le_trans HB3.out.size hbn.size)
      have HB4 : Hid (Below w.heap.size w (V4.alloc (.cells #[.slice p1 m c1, .slice p2 m c2] 22))) := below_next HB3.out hbn
      clear hbn HO3 HU3 HB3
      go_wp2_with (first | (go_at_call 18; fail))
      refine Calls.mono HA.out ?_
      rintro e V5 ⟨rfl, hb⟩
      have HB5 : Hid (Below w.heap.size w V5) := HB4.out.trans hb
      clear hb HB4 HA
      go_wp2
      go_ret
      exact ⟨rfl, HB5.out⟩
end Go.Proofs.Ytadljgaadjajdaa
