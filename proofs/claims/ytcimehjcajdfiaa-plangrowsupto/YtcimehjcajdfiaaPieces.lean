/- Pieces of bytes: the list that plan tells, and the document's; no condition. -/
import Derived.Test.YtcimehjcajdfiaaNums
namespace Go.Proofs.Ytcimehjcajdfiaa
open Go.RowKit Go.Maps
/-- Where the piece that begins at a ends, of bytes up to e. -/
def nxt (a e : Int) : Int := if e < (a / 8192 + 1) * 8192 then e else (a / 8192 + 1) * 8192
theorem nxt_gt {a e : Int} (h : a < e) : a < nxt a e := by
  have := h
  unfold nxt
  split <;> omega
theorem nxt_le (a e : Int) : nxt a e ≤ e := by
  unfold nxt
  split <;> omega
def pcsN (e : Int) : Nat → Int → List (Int × Int)
  | 0, _ => []
  | n + 1, a => if a < e then (a, nxt a e - a) :: pcsN e n (nxt a e) else []
theorem pcsN_any (e : Int) : ∀ (n m : Nat) (a : Int), (e - a).toNat ≤ n → (e - a).toNat ≤ m → pcsN e n a = pcsN e m a
  | 0, 0, _, _, _ => rfl
  | 0, m + 1, a, h, _ => by rw [pcsN, pcsN, if_neg (by omega)]
  | n + 1, 0, a, _, h => by rw [pcsN, pcsN, if_neg (by omega)]
  | n + 1, m + 1, a, h1, h2 => by
    rw [pcsN, pcsN]
    by_cases h : a < e
    · have := nxt_gt h
      rw [if_pos h, if_pos h, pcsN_any e n m (nxt a e) (by omega) (by omega)]
    · rw [if_neg h, if_neg h]
/-- The pieces of the bytes from a on, up to e. -/
def pcs (a e : Int) : List (Int × Int) := pcsN e (e - a).toNat a
theorem pcs_step {a e : Int} (h : a < e) : pcs a e = (a, nxt a e - a) :: pcs (nxt a e) e := by
  unfold pcs
  obtain ⟨k, hk⟩ : ∃ k, (e - a).toNat = k + 1 := ⟨(e - a).toNat - 1, by omega⟩
  have := nxt_gt h
  rw [hk, pcsN, if_pos h, pcsN_any e k (e - nxt a e).toNat (nxt a e) (by omega) (Nat.le_refl _)]
theorem pcs_end {a e : Int} (h : ¬ a < e) : pcs a e = [] := by
  unfold pcs
  rw [show (e - a).toNat = 0 by omega]
  rfl
def plist (a n : Int) : List (Int × Int) := if a < 0 ∨ n < 1 ∨ 67381248 < a + n then [] else pcs a (a + n)
def pc2 (p : Int × Int) : List Value := [.int .i64 p.1, .int .i64 p.2]
theorem pc2_len (p : Int × Int) : (pc2 p).length = 2 := rfl
theorem pc2_one (p : Int × Int) : ∀ u ∈ pc2 p, u.oneCell' = true := fun u hu => by
  simp [pc2] at hu
  rcases hu with rfl | rfl <;> rfl
/-- The slice v owns the pieces l, in a block from base on. -/
def OwnP (w : World) (base : Nat) (v : Value) (l : List (Int × Int)) : Prop := w.ownsRow base 39 2 v l.length (l.flatMap pc2)
theorem OwnP.nil (w : World) (base : Nat) : OwnP w base (.slice none 0 0) [] := World.ownsRow_nil w base 39 2
theorem info39 : (Try.prog.info? 39).map (fun i => (i.zero, i.size, i.bytes)) = some (some (.agg #[.int .i64 0, .int .i64 0]), 2, 16) := by kernel_rfl
theorem wpList_pushP {ops : Array Oper} {rest : List Oper} {o : Oper} {a : Act} {W : World} {Q : Exit → Act → World → Prop} (hgd : o.guard = none) (s x : Operand)
    (ho : o.op = .call { callee := .builtin .append, args := #[s, x], argTypes := #[22, 22] }) (base : Nat) (v : Value) (xs : List (Int × Int)) (y z : Int) (hs : a.eval s = v)
    (hx : a.eval x = .slice (some ⟨W.heap.size, 0, none⟩) 1 1) (hown : OwnP W base v xs) (hn : xs.length ≤ 1000000) (hbase : base ≤ W.heap.size)
    (h : ∀ v' w', OwnP w' base v' (xs ++ [(y, z)]) → Below base W w' → wpList Try.prog ops Q rest (a.put o.dst v') w') :
    wpList Try.prog ops Q (o :: rest) a (W.alloc (.cells #[.int .i64 y, .int .i64 z] 39)) := by
  obtain ⟨i0, hi0, hz0, hz1, hz2⟩ := info_parts info39
  have hnews : ∀ j u, (pc2 (y, z))[j]? = some u → (W.alloc (.cells #[.int .i64 y, .int .i64 z] 39)).cell? ((⟨W.heap.size, 0, none⟩ : Addr).add j) = some u := fun j u hu => by
    rw [Go.WideShapes.add_plain, Nat.zero_add, cell_of_row _ _ j _ 39 _ (heap_alloc_new W _)]
    rw [show (#[Value.int .i64 y, .int .i64 z] : Array Value) = (pc2 (y, z)).toArray from rfl, List.getElem?_toArray]
    exact hu
  refine wpList_append_own _ hgd s x 22 ho base 39 i0 (.agg #[.int .i64 0, .int .i64 0]) 2 16 Try.underlying22 hi0 hz0 hz1 hz2 rfl (by decide) v xs.length (xs.flatMap pc2) hs (World.ownsRow.alloc hown _) ⟨W.heap.size, 0, none⟩ 1 1 (pc2 (y, z)) hx rfl hnews
    (pc2_one _) (by unfold maxLen; omega) (by omega) (by simp; omega) ?_
  intro v' w' hown' hg _
  refine h v' w' ?_ (((Below.refl _ _).alloc hbase _).grown hg (by simp; omega) fun k hk => (World.ownsRow.lt hown k hk).1)
  unfold OwnP
  rw [List.length_append, List.flatMap_append]
  simpa using hown'
set_option maxHeartbeats 1000000 in
theorem pieces_any (a n : Int) (ha : I64 a) (hn : I64 n) (w : World) : Calls Try.prog 10 #[.int .i64 a, .int .i64 n] w fun e w' => ∃ v, e = .returned v ∧ OwnP w' w.heap.size v (plist a n) ∧ Below w.heap.size w w' := by
  by_cases h0 : a < 0
  · rw [show plist a n = [] from if_pos (.inl h0)]
    go_enter Try.func10, Try.ntmps10
    go_wp2
    go_ret
    exact ⟨_, rfl, OwnP.nil _ _, Below.refl _ _⟩
  · by_cases h1 : n < 1
    · rw [show plist a n = [] from if_pos (.inr (.inl h1))]
      go_enter Try.func10, Try.ntmps10
      go_wp2
      go_ret
      exact ⟨_, rfl, OwnP.nil _ _, Below.refl _ _⟩
    · have e1 : IntKind.i64.wrap (67381248 - a) = 67381248 - a := by rw [IntKind.wrap_i64]; omega
      by_cases h2 : 67381248 < a + n
      · rw [show plist a n = [] from if_pos (.inr (.inr h2))]
        have g2 : decide (67381248 - a < n) = true := decide_eq_true (by omega)
        go_enter Try.func10, Try.ntmps10
        go_wp2
        go_ret
        exact ⟨_, rfl, OwnP.nil _ _, Below.refl _ _⟩
      · have hl : plist a n = pcs a (a + n) := if_neg (by omega)
        have g2 : decide (67381248 - a < n) = false := decide_eq_false (by omega)
        have e2 : IntKind.i64.wrap (a + n) = a + n := by rw [IntKind.wrap_i64]; omega
        rw [hl]
        generalize hl2 : pcs a (a + n) = l
        have HS : Hid (pcs a (a + n) = l) := hl2
        have hb : 0 ≤ a ∧ a < a + n ∧ a + n ≤ 67381248 := by omega
        clear hl2 hl
        go_enter Try.func10, Try.ntmps10
        go_wp2
        go_loopw [0, 5] (fun s0 s5 wx => ∃ (x : Int) (k : List (Int × Int)), Hid (a ≤ x ∧ x ≤ a + n) ∧ s0 = .int .i64 x ∧ OwnP wx w.heap.size s5 k ∧ Below w.heap.size w wx ∧ Hid (k ++ pcs x (a + n) = l ∧ ((k.length : Int) ≤ x / 8192 ∨ x = a + n))) (fun s0 _ _ => (a + n - intOf s0).toNat)
        case atStart => exact ⟨a, [], by show a ≤ a ∧ a ≤ a + n; omega, rfl, OwnP.nil _ _, Below.refl _ _, HS.out, by simp; omega⟩
        case round =>
          obtain ⟨x, k, HX, rfl, hown, hbel, HK⟩ := hrel
          obtain ⟨hx1, hx2⟩ := HX.out
          by_cases hx : x < a + n
          · have HN : Hid (nxt x (a + n) = if a + n < (x / 8192 + 1) * 8192 then a + n else (x / 8192 + 1) * 8192) := rfl
            have HK2 : Hid ((k ++ [(x, nxt x (a + n) - x)]) ++ pcs (nxt x (a + n)) (a + n) = l) := by
              have := HK.out.1
              rw [pcs_step hx] at this
              show _ = l
              rw [List.append_assoc]
              exact this
            have hk : k.length ≤ 1000000 := by rcases HK.out.2 with q | q <;> omega
            have HQ : Hid ((k.length : Int) ≤ x / 8192) := by rcases HK.out.2 with q | q; exact q; omega
            have e3 : x.tdiv 8192 = x / 8192 := Int.tdiv_eq_ediv_of_nonneg (by omega)
            have e4 : IntKind.i64.wrap (x / 8192) = x / 8192 := by rw [IntKind.wrap_i64]; omega
            have e5 : IntKind.i64.wrap (x / 8192 + 1) = x / 8192 + 1 := by rw [IntKind.wrap_i64]; omega
            have e6 : IntKind.i64.wrap ((x / 8192 + 1) * 8192) = (x / 8192 + 1) * 8192 := by rw [IntKind.wrap_i64]; omega
            have hd : 8192 * (x / 8192) ≤ x ∧ x < 8192 * (x / 8192) + 8192 := by omega
            generalize x / 8192 = q at *
            obtain ⟨m, hm⟩ : ∃ m, (q + 1) * 8192 = m := ⟨_, rfl⟩
            have hm2 : m = 8192 * q + 8192 := by omega
            rw [hm] at e6
            rw [hm] at HN
            have HM : Hid (m = 8192 * q + 8192) := hm2
            clear HK HS
            by_cases hc : a + n < m
            · rw [if_pos hc] at HN
              have e7 : IntKind.i64.wrap (a + n - x) = a + n - x := by rw [IntKind.wrap_i64]; omega
              have g7 : decide (m < a + n) = false := decide_eq_false (by omega)
              have g8 : decide (a + n < m) = true := decide_eq_true hc
              clear hm2
              go_wp2_with (first | (at_builtin; refine wpList_pushP rfl (.tmp 32) (.tmp 38) rfl w.heap.size _ k x (a + n - x) rfl rfl hown hk hbel.size ?_; intro v' w2 hown' hb2))
              rw [HN.out] at HK2
              exact ⟨⟨a + n, k ++ [(x, a + n - x)], by show a ≤ a + n ∧ a + n ≤ a + n; omega, rfl, hown', hbel.trans hb2, HK2.out, .inr rfl⟩, by simp only [intOf]; omega⟩
            · rw [if_neg hc] at HN
              have hm3 := HM.out
              by_cases hc2 : m < a + n
              · have e7 : IntKind.i64.wrap (m - x) = m - x := by rw [IntKind.wrap_i64]; omega
                have g7 : decide (m < a + n) = true := decide_eq_true hc2
                have g8 : decide (a + n < m) = false := decide_eq_false hc
                clear hm2 hm3
                go_wp2_with (first | (at_builtin; refine wpList_pushP rfl (.tmp 32) (.tmp 38) rfl w.heap.size _ k x (m - x) rfl rfl hown hk hbel.size ?_; intro v' w2 hown' hb2))
                rw [HN.out] at HK2
                have hm3 := HM.out
                have hq := HQ.out
                exact ⟨⟨m, k ++ [(x, m - x)], by show a ≤ m ∧ m ≤ a + n; omega, rfl, hown', hbel.trans hb2, HK2.out, .inl (by rw [List.length_append, List.length_singleton]; omega)⟩, by simp only [intOf]; omega⟩
              · have e8 : m = a + n := by omega
                rw [e8] at HN e6 hm
                have e7 : IntKind.i64.wrap (a + n - x) = a + n - x := by rw [IntKind.wrap_i64]; omega
                clear hm2 hm3 hc hc2 e8
                go_wp2_with (first | (at_builtin; refine wpList_pushP rfl (.tmp 32) (.tmp 38) rfl w.heap.size _ k x (a + n - x) rfl rfl hown hk hbel.size ?_; intro v' w2 hown' hb2))
                all_goals
                  rw [HN.out] at HK2
                  exact ⟨⟨a + n, k ++ [(x, a + n - x)], by show a ≤ a + n ∧ a + n ≤ a + n; omega, rfl, hown', hbel.trans hb2, HK2.out, .inr rfl⟩, by simp only [intOf]; omega⟩
          · have e9 : x = a + n := by omega
            have hL := HK.out.1
            rw [e9, pcs_end (by omega), List.append_nil] at hL
            have HL : Hid (k = l) := hL
            clear hL
            go_wp2
            go_ret
            exact ⟨_, rfl, by rw [← HL.out]; exact hown, hbel⟩
set_option maxHeartbeats 1000000 in
theorem refPieces_any (a n : Int) (ha : I64 a) (hn : I64 n) (w : World) : Calls Try.prog 9 #[.int .i64 a, .int .i64 n] w fun e w' => ∃ v, e = .returned v ∧ OwnP w' w.heap.size v (plist a n) ∧ Below w.heap.size w w' := by
  by_cases h0 : a < 0
  · rw [show plist a n = [] from if_pos (.inl h0)]
    go_enter Try.func9, Try.ntmps9
    go_wp2
    go_ret
    exact ⟨_, rfl, OwnP.nil _ _, Below.refl _ _⟩
  · by_cases h1 : n < 1
    · rw [show plist a n = [] from if_pos (.inr (.inl h1))]
      go_enter Try.func9, Try.ntmps9
      go_wp2
      go_ret
      exact ⟨_, rfl, OwnP.nil _ _, Below.refl _ _⟩
    · by_cases h2 : 67381248 < a + n
      · rw [show plist a n = [] from if_pos (.inr (.inr h2))]
        by_cases h3 : 67381248 < a
        · have g2 : decide (67381248 < a) = true := decide_eq_true h3
          go_enter Try.func9, Try.ntmps9
          go_wp2
          go_ret
          exact ⟨_, rfl, OwnP.nil _ _, Below.refl _ _⟩
        · by_cases h4 : 67381248 < n
          · have g2 : decide (67381248 < n) = true := decide_eq_true h4
            go_enter Try.func9, Try.ntmps9
            go_wp2
            go_ret
            exact ⟨_, rfl, OwnP.nil _ _, Below.refl _ _⟩
          · have e2 : IntKind.i64.wrap (a + n) = a + n := by rw [IntKind.wrap_i64]; omega
            have g2 : decide (67381248 < a + n) = true := decide_eq_true h2
            go_enter Try.func9, Try.ntmps9
            go_wp2
            go_ret
            exact ⟨_, rfl, OwnP.nil _ _, Below.refl _ _⟩
      · have hl : plist a n = pcs a (a + n) := if_neg (by omega)
        have h3 : ¬ 67381248 < a := by omega
        have h4 : ¬ 67381248 < n := by omega
        have g2 : decide (67381248 < a + n) = false := decide_eq_false h2
        have e2 : IntKind.i64.wrap (a + n) = a + n := by rw [IntKind.wrap_i64]; omega
        rw [hl]
        generalize hl2 : pcs a (a + n) = l
        have HS : Hid (pcs a (a + n) = l) := hl2
        have hb : 0 ≤ a ∧ a < a + n ∧ a + n ≤ 67381248 := by omega
        clear hl2 hl
        go_enter Try.func9, Try.ntmps9
        go_wp2
        go_loopw [0, 5] (fun s0 s5 wx => ∃ (x : Int) (k : List (Int × Int)), Hid (a ≤ x ∧ x ≤ a + n) ∧ s0 = .int .i64 x ∧ OwnP wx w.heap.size s5 k ∧ Below w.heap.size w wx ∧ Hid (k ++ pcs x (a + n) = l ∧ ((k.length : Int) ≤ x / 8192 ∨ x = a + n))) (fun s0 _ _ => (a + n - intOf s0).toNat)
        case atStart => exact ⟨a, [], by show a ≤ a ∧ a ≤ a + n; omega, rfl, OwnP.nil _ _, Below.refl _ _, HS.out, by simp; omega⟩
        case round =>
          obtain ⟨x, k, HX, rfl, hown, hbel, HK⟩ := hrel
          obtain ⟨hx1, hx2⟩ := HX.out
          by_cases hx : x < a + n
          · have HN : Hid (nxt x (a + n) = if a + n < (x / 8192 + 1) * 8192 then a + n else (x / 8192 + 1) * 8192) := rfl
            have HK2 : Hid ((k ++ [(x, nxt x (a + n) - x)]) ++ pcs (nxt x (a + n)) (a + n) = l) := by
              have := HK.out.1
              rw [pcs_step hx] at this
              show _ = l
              rw [List.append_assoc]
              exact this
            have hk : k.length ≤ 1000000 := by rcases HK.out.2 with q | q <;> omega
            have HQ : Hid ((k.length : Int) ≤ x / 8192) := by rcases HK.out.2 with q | q; exact q; omega
            have e3 : x.tdiv 8192 = x / 8192 := Int.tdiv_eq_ediv_of_nonneg (by omega)
            have e4 : IntKind.i64.wrap (x / 8192) = x / 8192 := by rw [IntKind.wrap_i64]; omega
            have e5 : IntKind.i64.wrap (x / 8192 + 1) = x / 8192 + 1 := by rw [IntKind.wrap_i64]; omega
            have e6 : IntKind.i64.wrap ((x / 8192 + 1) * 8192) = (x / 8192 + 1) * 8192 := by rw [IntKind.wrap_i64]; omega
            have hd : 8192 * (x / 8192) ≤ x ∧ x < 8192 * (x / 8192) + 8192 := by omega
            generalize x / 8192 = q at *
            obtain ⟨m, hm⟩ : ∃ m, (q + 1) * 8192 = m := ⟨_, rfl⟩
            have hm2 : m = 8192 * q + 8192 := by omega
            rw [hm] at e6
            rw [hm] at HN
            have HM : Hid (m = 8192 * q + 8192) := hm2
            clear HK HS
            by_cases hc : a + n < m
            · rw [if_pos hc] at HN
              have e7 : IntKind.i64.wrap (a + n - x) = a + n - x := by rw [IntKind.wrap_i64]; omega
              have g7 : decide (m < a + n) = false := decide_eq_false (by omega)
              have g8 : decide (a + n < m) = true := decide_eq_true hc
              clear hm2
              go_wp2_with (first | (at_builtin; refine wpList_pushP rfl (.tmp 42) (.tmp 48) rfl w.heap.size _ k x (a + n - x) rfl rfl hown hk hbel.size ?_; intro v' w2 hown' hb2))
              rw [HN.out] at HK2
              exact ⟨⟨a + n, k ++ [(x, a + n - x)], by show a ≤ a + n ∧ a + n ≤ a + n; omega, rfl, hown', hbel.trans hb2, HK2.out, .inr rfl⟩, by simp only [intOf]; omega⟩
            · rw [if_neg hc] at HN
              have hm3 := HM.out
              by_cases hc2 : m < a + n
              · have e7 : IntKind.i64.wrap (m - x) = m - x := by rw [IntKind.wrap_i64]; omega
                have g7 : decide (m < a + n) = true := decide_eq_true hc2
                have g8 : decide (a + n < m) = false := decide_eq_false hc
                clear hm2 hm3
                go_wp2_with (first | (at_builtin; refine wpList_pushP rfl (.tmp 42) (.tmp 48) rfl w.heap.size _ k x (m - x) rfl rfl hown hk hbel.size ?_; intro v' w2 hown' hb2))
                rw [HN.out] at HK2
                have hm3 := HM.out
                have hq := HQ.out
                exact ⟨⟨m, k ++ [(x, m - x)], by show a ≤ m ∧ m ≤ a + n; omega, rfl, hown', hbel.trans hb2, HK2.out, .inl (by rw [List.length_append, List.length_singleton]; omega)⟩, by simp only [intOf]; omega⟩
              · have e8 : m = a + n := by omega
                rw [e8] at HN e6 hm
                have e7 : IntKind.i64.wrap (a + n - x) = a + n - x := by rw [IntKind.wrap_i64]; omega
                clear hm2 hm3 hc hc2 e8
                go_wp2_with (first | (at_builtin; refine wpList_pushP rfl (.tmp 42) (.tmp 48) rfl w.heap.size _ k x (a + n - x) rfl rfl hown hk hbel.size ?_; intro v' w2 hown' hb2))
                all_goals
                  rw [HN.out] at HK2
                  exact ⟨⟨a + n, k ++ [(x, a + n - x)], by show a ≤ a + n ∧ a + n ≤ a + n; omega, rfl, hown', hbel.trans hb2, HK2.out, .inr rfl⟩, by simp only [intOf]; omega⟩
          · have e9 : x = a + n := by omega
            have hL := HK.out.1
            rw [e9, pcs_end (by omega), List.append_nil] at hL
            have HL : Hid (k = l) := hL
            clear hL
            go_wp2
            go_ret
            exact ⟨_, rfl, by rw [← HL.out]; exact hown, hbel⟩
end Go.Proofs.Ytcimehjcajdfiaa
