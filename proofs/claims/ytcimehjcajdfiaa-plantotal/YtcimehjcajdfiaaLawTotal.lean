/- PlanTotal answers true, of any indices and number; the indices take fewer than 2 to the 47th bytes, less 4096. -/
import Derived.Test.YtcimehjcajdfiaaRefTot2
namespace Go.Proofs.Ytcimehjcajdfiaa
open Go.RowKit Go.Maps
theorem totalC_any (zs : List Int) (p : Option Addr) (cap : Nat) (w : World) (hlen : zs.length < 1152921504606846976) (hzs : IntsAt w p zs) :
    Calls Try.prog 20 #[.slice p zs.length cap] w fun e' w' => e' = .returned (.int .i64 (cnt (keysL zs))) ∧ Below w.heap.size w w' := by
  have := total_any zs p cap w hlen hzs
  rwa [size_cnt _ (keysL_keys zs)] at this
/-- The first k with v added, as a machine adds. -/
def addW (v x : Int) : Int := IntKind.i64.wrap (x + v)
def mixL (zs : List Int) (v : Int) (k : Nat) : List Int := (zs.map (addW v)).take k ++ zs.drop k
theorem mixL_len (zs : List Int) (v : Int) (k : Nat) : (mixL zs v k).length = zs.length := by
  unfold mixL
  rw [List.length_append, List.length_take, List.length_map, List.length_drop]
  omega
theorem mixL_get (zs : List Int) (v : Int) (k : Nat) (h : k < zs.length) : (mixL zs v k)[k]? = some zs[k] := by
  unfold mixL
  rw [List.getElem?_append_right (by rw [List.length_take, List.length_map]; omega), List.length_take, List.length_map, Nat.min_eq_left (by omega), Nat.sub_self, List.getElem?_drop, Nat.add_zero, List.getElem?_eq_getElem h]
theorem mixL_set (zs : List Int) (v : Int) (k : Nat) (h : k < zs.length) : (mixL zs v k).set k (addW v zs[k]) = mixL zs v (k + 1) := by
  unfold mixL
  have hl : ((zs.map (addW v)).take k).length = k := by rw [List.length_take, List.length_map]; omega
  rw [List.set_append_right _ _ (by omega), hl, Nat.sub_self, List.drop_eq_getElem_cons h, List.set_cons_zero, List.take_add_one, List.getElem?_map, List.getElem?_eq_getElem h, List.append_assoc]
  rfl
theorem mixL_all (zs : List Int) (v : Int) : mixL zs v zs.length = zs.map (addW v) := by
  unfold mixL
  rw [List.take_of_length_le (by rw [List.length_map]; exact Nat.le_refl _), List.drop_length, List.append_nil]
theorem mixL_zero (zs : List Int) (v : Int) : mixL zs v 0 = zs := by simp [mixL]
/-- A list whose first part is asked for. -/
theorem ints_prefix {w : World} {p : Option Addr} {zs r : List Int} (h : IntsAt w p (zs ++ r)) : IntsAt w p zs := fun h0 => by
  obtain ⟨b, off, hp, hlt, hc⟩ := h (by rw [List.length_append]; omega)
  exact ⟨b, off, hp, hlt, fun k x hx => hc k x (by rw [List.getElem?_append_left (List.getElem?_eq_some_iff.1 hx).1]; exact hx)⟩
set_option maxRecDepth 20000 in
set_option maxHeartbeats 2000000 in
theorem law_total {w : World} (zs : List Int) (p : Option Addr) (cap : Nat) (hn : 8 * zs.length ≤ 140737488351232) (hz : IntsAt w p zs) (hcap : p = none → cap = 0) (v : Int) :
    Calls Try.prog 5 #[.slice p zs.length cap, .int .i64 v] w fun e w' => e = .returned (.bool true) ∧ Below w.heap.size w w' := by
  have hle := lent_ints zs p cap hcap w hn hz
  obtain ⟨n, hnn⟩ : ∃ n, zs.length = n := ⟨_, rfl⟩
  have HZ : Hid (zs.length = n ∧ (zs ++ marks 7 0 6).length = n + 6 ∧ IntsAt w p zs ∧ (p = none → cap = 0)) := ⟨hnn, by rw [List.length_append, marks_len, hnn], hz, hcap⟩
  have HTot : Hid (∀ (l : List Int) (q : Option Addr) (c : Nat) (W : World), l.length = n → IntsAt W q l → Calls Try.prog 20 #[.slice q n c] W fun e' w' => e' = .returned (.int .i64 (cnt (keysL l))) ∧ Below W.heap.size W w') := fun l q c W h1 h2 => by
    have := totalC_any l q c W (by omega) h2
    rwa [h1] at this
  have HRef : Hid (∀ (l : List Int) (q : Option Addr) (c : Nat) (W : World), l.length = n → IntsAt W q l → Calls Try.prog 21 #[.slice q n c] W fun e' w' => e' = .returned (.int .i64 (cnt (keysL l))) ∧ Below W.heap.size W w') := fun l q c W h1 h2 => by
    have := refTotal_any l q c W (by omega) h2
    rwa [h1] at this
  have HKept : Hid (∀ (q : Option Addr) (c : Nat) (W : World), IntsAt W p zs → IntsAt W q (zs ++ marks 7 0 6) → Calls Try.prog 22 #[.slice q (n + 6) c, .slice p n cap] W fun e w' => e = .returned (.bool true) ∧ Below W.heap.size W w') := fun q c W h1 h2 => by
    have := kept_ints zs p q cap c (n + 6) (by omega) hcap W hn h1 h2
    rwa [hnn] at this
  have HCopy : Hid (∀ (l : List Int) (g c : Nat) (W : World), l.length = n → IntsAt W (some ⟨g, 0, none⟩) l → Calls Try.prog 23 #[.slice (some ⟨g, 0, none⟩) n c] W fun e w' => ∃ v, e = .returned v ∧ OwnZ w' W.heap.size v l ∧ Below W.heap.size W w') := fun l g c W h1 h2 => by
    have := copy_ints l (some ⟨g, 0, none⟩) c (fun q => by cases q) W (by omega) h2
    rwa [h1] at this
  rw [hnn] at hle ⊢
  clear hz hcap
  go_enter Try.func5, Try.ntmps5
  go_wp2_with (first | (go_at_call 19; fail))
  refine hle.mono ?_
  rintro e W1 ⟨u, rfl, hown, hb1⟩
  rcases own_form hown with ⟨_, q0⟩ | ⟨g, c, rfl, hlt⟩
  · rw [HZ.out.2.1] at q0
    omega
  rw [HZ.out.2.1]
  have hcl : n + 6 ≤ c := by
    obtain ⟨p', c', e1, _, h3, _⟩ := hown.ints
    injection e1 with _ _ e1
    rw [HZ.out.2.1] at h3
    omega
  have HO : Hid (W1.ownsRow w.heap.size 3 1 (.slice (some ⟨g, 0, none⟩) (n + 6) c) (n + 6) ((zs ++ marks 7 0 6).map (Value.int .i64))) := by
    have := hown
    unfold OwnZ at this
    rwa [HZ.out.2.1] at this
  have HB1 : Hid (Below w.heap.size w W1) := hb1
  have HI : Hid (IntsAt W1 (some ⟨g, 0, none⟩) (zs ++ marks 7 0 6)) := by
    obtain ⟨p', c', e1, h2, _, _⟩ := hown.ints
    injection e1 with e1
    rw [e1]
    exact h2
  clear hown hb1 hlt hle hnn
  obtain ⟨T, hT⟩ : ∃ T : Int, ((cnt (keysL zs) : Nat) : Int) = T := ⟨_, rfl⟩
  have A20 : Hid (∀ (q : Option Addr) (c : Nat) (W : World), IntsAt W q zs → Calls Try.prog 20 #[.slice q n c] W fun e' w' => e' = .returned (.int .i64 T) ∧ Below W.heap.size W w') := fun q c W h => by
    have := HTot.out zs q c W HZ.out.1 h
    rwa [hT] at this
  have A21 : Hid (∀ (q : Option Addr) (c : Nat) (W : World), IntsAt W q zs → Calls Try.prog 21 #[.slice q n c] W fun e' w' => e' = .returned (.int .i64 T) ∧ Below W.heap.size W w') := fun q c W h => by
    have := HRef.out zs q c W HZ.out.1 h
    rwa [hT] at this
  obtain ⟨T2, hT2⟩ : ∃ T : Int, ((cnt (keysL (zs.map (addW v))) : Nat) : Int) = T := ⟨_, rfl⟩
  have B20 : Hid (∀ (q : Option Addr) (c : Nat) (W : World), IntsAt W q (zs.map (addW v)) → Calls Try.prog 20 #[.slice q n c] W fun e' w' => e' = .returned (.int .i64 T2) ∧ Below W.heap.size W w') := fun q c W h => by
    have := HTot.out (zs.map (addW v)) q c W (by rw [List.length_map]; exact HZ.out.1) h
    rwa [hT2] at this
  have B21 : Hid (∀ (q : Option Addr) (c : Nat) (W : World), IntsAt W q (zs.map (addW v)) → Calls Try.prog 21 #[.slice q n c] W fun e' w' => e' = .returned (.int .i64 T2) ∧ Below W.heap.size W w') := fun q c W h => by
    have := HRef.out (zs.map (addW v)) q c W (by rw [List.length_map]; exact HZ.out.1) h
    rwa [hT2] at this
  have B23 : Hid (∀ (c : Nat) (W : World), IntsAt W (some ⟨g, 0, none⟩) (zs.map (addW v)) → Calls Try.prog 23 #[.slice (some ⟨g, 0, none⟩) n c] W fun e w' => ∃ q c', e = .returned (.slice q n c') ∧ IntsAt w' q (zs.map (addW v)) ∧ Below W.heap.size W w') := fun c W h =>
    (HCopy.out (zs.map (addW v)) g c W (by rw [List.length_map]; exact HZ.out.1) h).mono fun e w' ⟨u, h1, h2, h3⟩ => by
      obtain ⟨q, c', e1, h4, _, _⟩ := h2.ints
      rw [List.length_map, HZ.out.1] at e1
      exact ⟨q, c', by rw [h1, e1], h4, h3⟩
  clear hT hT2 HTot HRef HCopy
  have gT : (T == T) = true := by simp
  have gT2 : (T2 == T2) = true := by simp
  have hnb : 8 * n ≤ 140737488351232 := by rw [← HZ.out.1]; exact hn
  clear hn
  go_wp2_with (first | (go_at_call 20; fail))
  refine (A20.out _ _ _ (ints_prefix HI.out)).mono ?_
  rintro e W2 ⟨rfl, hb2⟩
  have HB2 : Hid (Below W1.heap.size W1 W2) := hb2
  clear hb2
  go_wp2_with (first | (go_at_call 21; fail))
  refine (A21.out _ _ _ (HZ.out.2.2.1.later (below_next HB1.out HB2.out))).mono ?_
  rintro e W3 ⟨rfl, hb3⟩
  have HB3 : Hid (Below W1.heap.size W1 W3) := below_next HB2.out hb3
  clear hb3 HB2
  go_wp2_with (first | (go_at_call 20; fail))
  refine (A20.out _ _ _ ((ints_prefix HI.out).later HB3.out)).mono ?_
  rintro e W4 ⟨rfl, hb4⟩
  have HB4 : Hid (Below W1.heap.size W1 W4) := below_next HB3.out hb4
  clear hb4 HB3
  go_wp2_with (first | (go_at_call 21; fail))
  refine (A21.out _ _ _ (HZ.out.2.2.1.later (below_next HB1.out HB4.out))).mono ?_
  rintro e W5 ⟨rfl, hb5⟩
  have HB5 : Hid (Below W1.heap.size W1 W5) := below_next HB4.out hb5
  clear hb5 HB4
  go_wp2_with (first | (go_at_call 22; fail))
  refine (HKept.out _ _ _ (HZ.out.2.2.1.later (below_next HB1.out HB5.out)) (HI.out.later HB5.out)).mono ?_
  rintro e W6 ⟨rfl, hb6⟩
  have HB6 : Hid (Below w.heap.size w W6) := below_next HB1.out (below_next HB5.out hb6)
  have HO6 : Hid (W6.ownsRow w.heap.size 3 1 (.slice (some ⟨g, 0, none⟩) (n + 6) c) (n + 6) ((mixL zs v 0 ++ marks 7 0 6).map (Value.int .i64))) := by
    rw [mixL_zero]
    exact own_later HO.out (below_next HB5.out hb6)
  clear hb6 HB5 HB1 HI HO HKept A20 A21
  go_wp2
  go_loopw [7] (fun s7 wx => ∃ k : Nat, k ≤ n ∧ s7 = .int .i64 k ∧ Hid (wx.ownsRow w.heap.size 3 1 (.slice (some ⟨g, 0, none⟩) (n + 6) c) (n + 6) ((mixL zs v k ++ marks 7 0 6).map (Value.int .i64))) ∧ Hid (Below w.heap.size w wx)) (fun s7 _ => n - (intOf s7).toNat)
  case atStart => exact ⟨0, by omega, rfl, HO6.out, HB6.out⟩
  case round =>
    obtain ⟨k, hk, rfl, HO, HB⟩ := hrel
    clear HO6 HB6
    by_cases hk2 : (k : Int) < n
    · have hkz : k < zs.length := by rw [HZ.out.1]; omega
      have hx : ((mixL zs v k ++ marks 7 0 6).map (Value.int .i64))[k]? = some (.int .i64 zs[k]) := by
        rw [List.getElem?_map, List.getElem?_append_left (by rw [mixL_len]; exact hkz), mixL_get _ _ _ hkz]
        rfl
      have c0 : wr.cell? ⟨g, k, none⟩ = some (.int .i64 zs[k]) := by
        have := HO.out.cells (g := g) rfl k _ hx
        rwa [Go.WideShapes.add_plain, Nat.zero_add] at this
      have f0 : wr.frozen? ⟨g, k, none⟩ = false := by
        rcases HO.out.2 with ⟨q, _⟩ | ⟨g', cap', cur, hv, _, hg, _⟩
        · cases q
        · injection hv with hv
          injection hv with hv
          injection hv with hv
          subst hv
          exact frozen_row hg k
      have hst := HO.out.stored k (.int .i64 (addW v zs[k]))
      have H2 : Hid ((wr.setCell ⟨g, k, none⟩ (.int .i64 (addW v zs[k]))).ownsRow w.heap.size 3 1 (.slice (some ⟨g, 0, none⟩) (n + 6) c) (n + 6) ((mixL zs v (k + 1) ++ marks 7 0 6).map (Value.int .i64))) := by
        have := hst.1
        rw [← List.map_set, List.set_append_left _ _ (by rw [mixL_len]; exact hkz), mixL_set _ _ _ hkz] at this
        exact this
      have HB2 : Hid (Below w.heap.size w (wr.setCell ⟨g, k, none⟩ (.int .i64 (addW v zs[k])))) := HB.out.trans ((Fr.setCell wr g k _).below (fun i hi => by subst hi; exact (HO.out.lt _ rfl).1) HB.out.size)
      have ew : IntKind.i64.wrap (zs[k] + v) = addW v zs[k] := rfl
      generalize addW v zs[k] = y at *
      generalize zs[k] = x at *
      clear hst hx hkz HO HB
      go_wp2_with (first | (with_reducible refine isStoreR 3 ?_; refine wpList_st3 rfl (.tmp 46) (.tmp 45) rfl g k y _ rfl rfl c0 f0 ?_))
      exact ⟨⟨k + 1, by omega, by go_num, H2.out, HB2.out⟩, by simp [intOf]; omega⟩
    · obtain rfl : n = k := by omega
      have HI : Hid (IntsAt wr (some ⟨g, 0, none⟩) (zs.map (addW v))) := by
        have h1 := HO.out
        rw [← HZ.out.1, mixL_all] at h1
        have h2 : wr.ownsRow w.heap.size 3 1 (.slice (some ⟨g, 0, none⟩) (zs.length + 6) c) (zs.map (addW v) ++ marks 7 0 6).length ((zs.map (addW v) ++ marks 7 0 6).map (Value.int .i64)) := by
          rw [List.length_append, List.length_map, marks_len]
          exact h1
        obtain ⟨p', c', e1, h4, _, _⟩ := ints_of_row h2
        injection e1 with e1
        rw [e1]
        exact ints_prefix h4
      clear HO hk hk2
      go_wp2_with (first | (go_at_call 20; fail))
      refine (B20.out _ _ _ HI.out).mono ?_
      rintro e V1 ⟨rfl, hc1⟩
      have HC1 : Hid (Below wr.heap.size wr V1) := hc1
      clear hc1
      go_wp2_with (first | (go_at_call 23; fail))
      refine (B23.out _ _ (HI.out.later HC1.out)).mono ?_
      rintro e V2 ⟨q, c', rfl, hi2, hc2⟩
      have HI2 : Hid (IntsAt V2 q (zs.map (addW v))) := hi2
      have HC2 : Hid (Below wr.heap.size wr V2) := below_next HC1.out hc2
      clear hi2 hc2
      go_wp2_with (first | (go_at_call 21; fail))
      refine (B21.out _ _ _ HI2.out).mono ?_
      rintro e V3 ⟨rfl, hc3⟩
      have HC3 : Hid (Below w.heap.size w V3) := below_next HB.out (below_next HC2.out hc3)
      clear hc3
      go_wp2
      go_ret
      exact ⟨rfl, HC3.out⟩
theorem total_walk {w : World} (zs : List Int) (p : Option Addr) (cap : Nat) (hn : 8 * zs.length ≤ 140737488351232) (hz : IntsAt w p zs) (_hwf : ∀ t ∈ zs, (Lit.int .i64 t).wf = true) (hcap : p = none → cap = 0) (v : Int) (_hv : (Lit.int .i64 v).wf = true) :
    Calls Try.prog 5 #[.slice p zs.length cap, .int .i64 v] w fun e w' => e = .returned (.bool true) ∧ Below w.heap.size w w' := law_total zs p cap hn hz hcap v
end Go.Proofs.Ytcimehjcajdfiaa
