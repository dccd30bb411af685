/- PlanCovers answers true, of any place and number; no condition. -/
import Derived.Test.YtcimehjcajdfiaaAwake
import Derived.Test.YtcimehjcajdfiaaLawPieces
namespace Go.Proofs.Ytcimehjcajdfiaa
open Go.RowKit Go.Maps
theorem nxt_group {x e : Int} (h : x < e) : (nxt x e - 1) / 8192 = x / 8192 := by
  have h1 := nxt_gt h
  unfold nxt at *
  split <;> omega
theorem nxt_next {x e : Int} (h : nxt x e < e) : nxt x e / 8192 = x / 8192 + 1 := by
  unfold nxt at *
  split at h
  · omega
  · rename_i q
    rw [if_neg q]
    omega
theorem nxt_small (x e : Int) : nxt x e - x ≤ 8192 := by
  unfold nxt
  split <;> omega
set_option maxRecDepth 20000 in
set_option maxHeartbeats 1000000 in
theorem law_covers (a n : Int) (ha : I64 a) (hn : I64 n) (w : World) : Calls Try.prog 6 #[.int .i64 a, .int .i64 n] w fun e w' => e = .returned (.bool true) ∧ Below w.heap.size w w' := by
  have haw := awake_any w
  have hp := pieces_any a n ha hn
  by_cases hbad : a < 0 ∨ n < 1 ∨ 67381248 < a + n
  · rw [show plist a n = [] from if_pos hbad] at hp
    have g1 : decide (a < 0) = true ∨ (decide (a < 0) = false ∧ decide (n < 1) = true) ∨ (decide (a < 0) = false ∧ decide (n < 1) = false ∧ decide (67381248 < a) = true) ∨ (decide (a < 0) = false ∧ decide (n < 1) = false ∧ decide (67381248 < a) = false ∧ IntKind.i64.wrap (67381248 - a) = 67381248 - a ∧ decide (67381248 - a < n) = true) := by
      by_cases q1 : a < 0
      · exact .inl (decide_eq_true q1)
      · by_cases q2 : n < 1
        · exact .inr (.inl ⟨decide_eq_false q1, decide_eq_true q2⟩)
        · by_cases q3 : 67381248 < a
          · exact .inr (.inr (.inl ⟨decide_eq_false q1, decide_eq_false q2, decide_eq_true q3⟩))
          · exact .inr (.inr (.inr ⟨decide_eq_false q1, decide_eq_false q2, decide_eq_false q3, by rw [IntKind.wrap_i64]; omega, decide_eq_true (by omega)⟩))
    clear hbad
    go_enter Try.func6, Try.ntmps6
    go_wp2_with (first | (go_at_call 24; fail))
    refine haw.mono ?_
    rintro e W1 ⟨rfl, hb1⟩
    go_wp2_with (first | (go_at_call 10; fail))
    refine (hp _).mono ?_
    rintro e W2 ⟨v, rfl, ho, hb2⟩
    obtain ⟨p, c, rfl, hat, _⟩ := ho.at
    rw [show ([] : List (Int × Int)).length = 0 from rfl]
    have HB : Hid (Below w.heap.size w W2) := below_next hb1 hb2
    clear hb1 hb2 hp haw ho hat
    rcases g1 with g1 | ⟨g1, g2⟩ | ⟨g1, g2, g3⟩ | ⟨g1, g2, g3, g4, g5⟩
    all_goals
      go_wp2
      go_ret
      exact ⟨rfl, HB.out⟩
  · have hl : plist a n = pcs a (a + n) := if_neg hbad
    have hln := plist_len a n
    rw [hl] at hp hln
    have g1 : decide (a < 0) = false := decide_eq_false (by omega)
    have g2 : decide (n < 1) = false := decide_eq_false (by omega)
    have g3 : decide (67381248 < a) = false := decide_eq_false (by omega)
    have g4 : IntKind.i64.wrap (67381248 - a) = 67381248 - a := by rw [IntKind.wrap_i64]; omega
    have g5 : decide (67381248 - a < n) = false := decide_eq_false (by omega)
    have g6 : IntKind.i64.wrap (a + n) = a + n := by rw [IntKind.wrap_i64]; omega
    have HA : Hid (0 ≤ a ∧ 1 ≤ n ∧ a + n ≤ 67381248) := by show _ ∧ _; omega
    obtain ⟨l, hl2⟩ : ∃ l, pcs a (a + n) = l := ⟨_, rfl⟩
    rw [hl2] at hp hln
    have HL0 : Hid (l = pcs a (a + n)) := hl2.symm
    clear hbad hl hl2
    go_enter Try.func6, Try.ntmps6
    go_wp2_with (first | (go_at_call 24; fail))
    refine haw.mono ?_
    rintro e W1 ⟨rfl, hb1⟩
    go_wp2_with (first | (go_at_call 10; fail))
    refine (hp _).mono ?_
    rintro e W2 ⟨v, rfl, ho, hb2⟩
    obtain ⟨p, c, rfl, hat, _⟩ := ho.at
    have HB : Hid (Below w.heap.size w W2) := below_next hb1 hb2
    have HP : Hid (PcsAt W2 p l) := hat
    obtain ⟨N, hN⟩ : ∃ N, l.length = N := ⟨_, rfl⟩
    have HN : Hid (l.length = N) := hN
    rw [hN] at hln ⊢
    clear hb1 hb2 hp haw ho hat hN
    go_wp2
    go_loopw [7, 8, 9] (fun s7 s8 s9 wx => ∃ (k : Nat) (x g : Int), k ≤ N ∧ s9 = .int .i64 k ∧ s7 = .int .i64 x ∧ s8 = .int .i64 g ∧ Hid (l.drop k = pcs x (a + n) ∧ a ≤ x ∧ x ≤ a + n ∧ (k = 0 ∨ x = a + n ∨ x / 8192 = g + 1) ∧ -1 ≤ g ∧ g ≤ 100000) ∧ Hid (Below W2.heap.size W2 wx)) (fun _ _ s9 _ => N - (intOf s9).toNat)
    case atStart => exact ⟨0, a, -1, by omega, rfl, rfl, rfl, ⟨by rw [List.drop_zero]; exact HL0.out, by omega, by have := HA.out; omega, .inl rfl, by omega, by omega⟩, Below.refl _ _⟩
    case round =>
      obtain ⟨k, x, g, hk, rfl, rfl, rfl, HX, HW⟩ := hrel
      by_cases hk2 : (k : Int) < N
      · have hnn := HN.out
        obtain ⟨hd, hx1, hx2, hx3, hg1, hg2⟩ := HX.out
        have hc : l[k]? = some l[k] := List.getElem?_eq_getElem (by omega)
        rw [List.drop_eq_getElem_cons (by omega)] at hd
        have hxe : x < a + n := by
          by_cases q : x < a + n
          · exact q
          · rw [pcs_end q] at hd; cases hd
        rw [pcs_step hxe] at hd
        injection hd with hd1 hd2
        rw [hd1] at hc
        obtain ⟨gb, rfl, lb, C⟩ := HP.out (by omega)
        obtain ⟨c0, c1⟩ := C k _ hc
        have q0 : wr.cell? ⟨gb, k * 2, none⟩ = some (.int .i64 x) := (HW.out.cell (p := ⟨gb, k * 2, none⟩) lb).trans c0
        have q1 : wr.cell? ⟨gb, k * 2 + 1, none⟩ = some (.int .i64 (nxt x (a + n) - x)) := (HW.out.cell (p := ⟨gb, k * 2 + 1, none⟩) lb).trans c1
        have hA := HA.out
        have n1 := nxt_gt hxe
        have n2 := nxt_le x (a + n)
        have n3 := nxt_group hxe
        have n4 := nxt_small x (a + n)
        have n5 := nxt_next (x := x) (e := a + n)
        have HD2 : Hid (l.drop (k + 1) = pcs (nxt x (a + n)) (a + n)) := hd2
        generalize nxt x (a + n) = m at *
        have e1 : x.tdiv 1024 = x / 1024 := Int.tdiv_eq_ediv_of_nonneg (by omega)
        have e2 : IntKind.i64.wrap (x / 1024) = x / 1024 := by rw [IntKind.wrap_i64]; omega
        have e3 : IntKind.i64.wrap (x + (m - x)) = m := by rw [IntKind.wrap_i64]; omega
        have e4 : IntKind.i64.wrap (m - 1) = m - 1 := by rw [IntKind.wrap_i64]; omega
        have e5 : (m - 1).tdiv 1024 = (m - 1) / 1024 := Int.tdiv_eq_ediv_of_nonneg (by omega)
        have e6 : IntKind.i64.wrap ((m - 1) / 1024) = (m - 1) / 1024 := by rw [IntKind.wrap_i64]; omega
        have gr1 := group_any (x / 1024) (by unfold I64; omega)
        have gr2 := group_any ((m - 1) / 1024) (by unfold I64; omega)
        rw [show groupN (x / 1024) = x / 8192 by unfold groupN; rw [if_neg (by omega)]; omega] at gr1
        rw [show groupN ((m - 1) / 1024) = x / 8192 by unfold groupN; rw [if_neg (by omega)]; omega] at gr2
        have d1 : decide (m - x < 1) = false := decide_eq_false (by omega)
        have d2 : decide (8192 < m - x) = false := decide_eq_false (by omega)
        have dx : (x == x) = true := by simp
        have HR : Hid (-1 ≤ x / 8192 ∧ x / 8192 ≤ 100000 ∧ (m = a + n ∨ m / 8192 = x / 8192 + 1) ∧ a ≤ m ∧ m ≤ a + n) := ⟨by omega, by omega, by by_cases q : m < a + n; exact .inr (n5 q); exact .inl (by omega), by omega, by omega⟩
        have HK : Hid ((k = 0 ∧ decide (0 < (k : Int)) = false) ∨ (decide (0 < (k : Int)) = true ∧ x / 8192 = g + 1)) := by
          rcases hx3 with q | q | q
          · exact .inl ⟨q, decide_eq_false (by omega)⟩
          · omega
          · by_cases r : k = 0
            · exact .inl ⟨r, decide_eq_false (by omega)⟩
            · exact .inr ⟨decide_eq_true (by omega), q⟩
        have e7 : IntKind.i64.wrap (g + 1) = g + 1 := by rw [IntKind.wrap_i64]; omega
        clear hd1 hd2 hc C c0 c1 hx3 n3 n4 n5 hnn
        generalize x / 1024 = A at *
        generalize (m - 1) / 1024 = M at *
        generalize x / 8192 = G at *
        go_wp2_with (first | (go_at_call 15; refine (gr1 _).mono ?_; rintro e W ⟨rfl, rfl⟩))
        go_quiet (first | (go_at_call 15; exact (gr2 _).mono fun _ _ h => ⟨h.1, ⟨_, h.2⟩⟩))
        have gG : (G == G) = true := by simp
        rcases HK.out with ⟨q, r⟩ | ⟨r, q⟩
        · have r2 : decide (0 < k) = false := decide_eq_false (by omega)
          clear q HK
          go_wp2
          have hr := HR.out
          exact ⟨⟨k + 1, m, G, by omega, by go_num, rfl, rfl, ⟨HD2.out, hr.2.2.2.1, hr.2.2.2.2, .inr hr.2.2.1, hr.1, hr.2.1⟩, belowN HW.out _⟩, by simp [intOf]; omega⟩
        · have r2 : decide (0 < k) = true := decide_eq_true (by simp at r; omega)
          have gK : (G == g + 1) = true := by simp [q]
          clear q HK
          go_wp2
          have hr := HR.out
          exact ⟨⟨k + 1, m, G, by omega, by go_num, rfl, rfl, ⟨HD2.out, hr.2.2.2.1, hr.2.2.2.2, .inr hr.2.2.1, hr.1, hr.2.1⟩, belowN HW.out _⟩, by simp [intOf]; omega⟩
      · obtain ⟨hd, hx1, hx2, hx3, hg1, hg2⟩ := HX.out
        have hxe : x = a + n := by
          rw [List.drop_of_length_le (by rw [HN.out]; omega)] at hd
          by_cases q : x < a + n
          · rw [pcs_step q] at hd; cases hd
          · omega
        have gx : (x == a + n) = true := by simp [hxe]
        have HBB : Hid (Below w.heap.size w wr) := below_next HB.out HW.out
        clear hd hx1 hx2 hx3 hg1 hg2 hxe HX
        go_wp2
        go_ret
        exact ⟨rfl, HBB.out⟩
end Go.Proofs.Ytcimehjcajdfiaa
