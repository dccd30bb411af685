/- Lists of numbers in memory: held against each other, copied, lent, kept; they take fewer than 2 to the 47th bytes, less 4096. -/
import Derived.Test.YtcimehjcajdfiaaBase
import Derived.Deep.LoopGhost
namespace Go.Proofs.Ytcimehjcajdfiaa
open Go.RowKit Go.Maps
theorem info3 : (Try.prog.info? 3).map (fun i => (i.zero, i.size, i.bytes)) = some (some (.int .i64 0), 1, 8) := by kernel_rfl
/-- Numbers that lie in memory. -/
def IntsAt (w : World) (p : Option Addr) (zs : List Int) : Prop := 0 < zs.length → ∃ b off, p = some ⟨b, off, none⟩ ∧ b < w.heap.size ∧ ∀ j x, zs[j]? = some x → w.cell? ⟨b, off + j, none⟩ = some (.int .i64 x)
theorem ints_of_row {w : World} {base : Nat} {v : Value} {zs : List Int} (h : w.ownsRow base 3 1 v zs.length (zs.map (Value.int .i64))) : ∃ p c, v = .slice p zs.length c ∧ IntsAt w p zs ∧ zs.length ≤ c ∧ ∀ b off, p = some ⟨b, off, none⟩ → base ≤ b := by
  rcases h.2 with ⟨h1, h2⟩ | ⟨g, cap, cur, h1, hg, hh, hc, _⟩
  · exact ⟨none, 0, by rw [h1, h2], fun q => by omega, by omega, fun _ _ q => by cases q⟩
  · refine ⟨_, cap, h1, fun _ => ⟨g, 0, rfl, (h.lt g (by rw [h1]; rfl)).2, fun j x hx => ?_⟩, hc, fun b off q => by injection q with q; injection q with q1; omega⟩
    have q := h.cells (g := g) (by rw [h1]; rfl) j (.int .i64 x) (by rw [List.getElem?_map, hx]; rfl)
    rw [Go.WideShapes.add_plain] at q
    exact q
theorem IntsAt.later {w W : World} {p : Option Addr} {l : List Int} (h : IntsAt w p l) (hb : Below w.heap.size w W) : IntsAt W p l := fun h0 => by
  obtain ⟨b, off, h1, h2, h3⟩ := h h0
  exact ⟨b, off, h1, Nat.lt_of_lt_of_le h2 hb.size, fun j x hx => (hb.cell (p := ⟨b, off + j, none⟩) h2).trans (h3 j x hx)⟩
set_option maxRecDepth 20000 in
set_option maxHeartbeats 1000000 in
theorem sameInts_any (s t : List Int) (p q : Option Addr) (cp cq : Nat) (w : World) (hls : s.length < 9223372036854775807) (hs : IntsAt w p s) (ht : IntsAt w q t) :
    Calls Try.prog 28 #[.slice p s.length cp, .slice q t.length cq] w fun e w' => e = .returned (.bool (decide (s = t))) ∧ Below w.heap.size w w' := by
  by_cases hl : s.length = t.length
  · have HS : Hid (IntsAt w p s) := hs
    have HT : Hid (IntsAt w q t) := ht
    have HR : Hid (decide (s = t) = decide (s.drop 0 = t.drop 0)) := rfl
    generalize decide (s = t) = res at *
    obtain ⟨n, hn⟩ : ∃ n, s.length = n := ⟨_, rfl⟩
    have hn2 : t.length = n := by omega
    rw [hn, hn2]
    rw [hn] at hls
    have HL : Hid (s.length = n ∧ t.length = n) := ⟨hn, hn2⟩
    clear hs ht hl hn hn2
    go_enter Try.func28, Try.ntmps28
    go_wp2
    go_loopw [5] (fun s5 wx => ∃ k : Nat, k ≤ n ∧ s5 = .int .i64 k ∧ Hid (Below w.heap.size w wx) ∧ Hid (res = decide (s.drop k = t.drop k))) (fun s5 _ => n - (intOf s5).toNat)
    case atStart => exact ⟨0, by omega, rfl, Below.refl _ _, HR.out⟩
    case round =>
      obtain ⟨k, hk, rfl, HB, HR2⟩ := hrel
      clear HR
      by_cases hk2 : (k : Int) < n
      · obtain ⟨hn, hn2⟩ := HL.out
        have hc : s[k]? = some s[k] := List.getElem?_eq_getElem (by omega)
        have hd : t[k]? = some t[k] := List.getElem?_eq_getElem (by omega)
        have hcd : s.drop k = s[k] :: s.drop (k + 1) := List.drop_eq_getElem_cons (by omega)
        have hdd : t.drop k = t[k] :: t.drop (k + 1) := List.drop_eq_getElem_cons (by omega)
        obtain ⟨b1, o1, rfl, l1, C1⟩ := HS.out (by omega)
        obtain ⟨b2, o2, rfl, l2, C2⟩ := HT.out (by omega)
        generalize s[k] = c at hc hcd
        generalize t[k] = d at hd hdd
        have q1 : wr.cell? ⟨b1, o1 + k, none⟩ = some (.int .i64 c) := (HB.out.cell (p := ⟨b1, o1 + k, none⟩) l1).trans (C1 k c hc)
        have q2 : wr.cell? ⟨b2, o2 + k, none⟩ = some (.int .i64 d) := (HB.out.cell (p := ⟨b2, o2 + k, none⟩) l2).trans (C2 k d hd)
        have hR := HR2.out
        rw [hcd, hdd] at hR
        clear HR2 C1 C2 hcd hdd hc hd hn hn2
        by_cases hcdd : c = d
        · subst hcdd
          have HR3 : Hid (res = decide (s.drop (k + 1) = t.drop (k + 1))) := by
            have e : res = decide (s.drop (k + 1) = t.drop (k + 1)) := by rw [hR]; simp
            exact e
          have g0 : decide (c = c) = true := by simp
          clear hR
          go_wp2
          go_quiet (fail)
          go_wp2
          exact ⟨⟨k + 1, by omega, by go_num, belowN HB.out _, HR3.out⟩, by simp [intOf]; omega⟩
        · have hr0 : res = false := by rw [hR]; simp [hcdd]
          have g0 : decide (c = d) = false := decide_eq_false hcdd
          clear hR
          subst hr0
          go_wp2
          go_quiet (fail)
          go_wp2
          go_ret
          exact ⟨rfl, belowN HB.out _⟩
      · obtain rfl : k = n := by omega
        have hr0 : res = true := by
          obtain ⟨hn, hn2⟩ := HL.out
          rw [HR2.out, List.drop_of_length_le (by omega), List.drop_of_length_le (by omega)]
          rfl
        subst hr0
        go_wp2
        go_ret
        exact ⟨rfl, HB.out⟩
  · have e : decide (s = t) = false := decide_eq_false fun q => hl (by rw [q])
    rw [e]
    have hlI : ¬ ((s.length : Int) = t.length) := by omega
    clear e hs ht
    go_enter Try.func28, Try.ntmps28
    go_wp2
    go_ret
    exact ⟨rfl, Below.refl _ _⟩
/-- The slice v owns the numbers zs, in a block from base on. -/
def OwnZ (w : World) (base : Nat) (v : Value) (zs : List Int) : Prop := w.ownsRow base 3 1 v zs.length (zs.map (Value.int .i64))
theorem OwnZ.nil (w : World) (base : Nat) : OwnZ w base (.slice none 0 0) [] := World.ownsRow_nil w base 3 1
theorem OwnZ.later {w w' : World} {base : Nat} {v : Value} {xs : List Int} (h : OwnZ w base v xs) (hb : Below w.heap.size w w') : OwnZ w' base v xs := by
  refine ⟨h.1, ?_⟩
  rcases h.2 with hn | ⟨g, cap, cur, rfl, hB, hg, rest⟩
  · exact .inl hn
  · exact .inr ⟨g, cap, cur, rfl, hB, heap_kept hg hb, rest⟩
theorem OwnZ.ints {w : World} {base : Nat} {v : Value} {zs : List Int} (h : OwnZ w base v zs) : ∃ p c, v = .slice p zs.length c ∧ IntsAt w p zs ∧ zs.length ≤ c ∧ ∀ b off, p = some ⟨b, off, none⟩ → base ≤ b := ints_of_row h
/-- A block below, or beside the list's own, lies as it lay. -/
theorem pushed_kept {W w' : World} {o o' : Obj} {v : Value} {g : Nat} (hg : (W.alloc o).grownBy w' v.ownBlock) (hv : ∀ k, v.ownBlock = some k → k ≠ g) (h : W.heap[g]? = some o') : w'.heap[g]? = some o' := by
  have hlt := (Array.getElem?_eq_some_iff.1 h).1
  rw [hg.block g (by simp; omega) (by
    cases e : v.ownBlock with
    | none => simp
    | some k => simp; exact fun q => hv k e q.symm)]
  rw [heap_alloc_old W o hlt]
  exact h
theorem ints_one (zs : List Int) : ∀ v ∈ zs.map (Value.int .i64), v.oneCell' = true := fun v hv => by
  obtain ⟨x, _, rfl⟩ := List.mem_map.1 hv
  rfl
set_option maxRecDepth 20000 in
set_option maxHeartbeats 400000 in
theorem copy_none (w : World) : Calls Try.prog 23 #[.slice none 0 0] w fun e w' => ∃ v, e = .returned v ∧ OwnZ w' w.heap.size v [] ∧ Below w.heap.size w w' := by
  obtain ⟨i0, hi0, hz0, hz1, hz2⟩ := info_parts info3
  go_enter Try.func23, Try.ntmps23
  go_wp2_with (at_builtin; refine wpList_append_own_none rfl _ _ 32 rfl w.heap.size 3 i0 1 Try.underlying32 hi0 _ 0 [] rfl (World.ownsRow_nil _ _ _ _) rfl ?_)
  go_ret
  exact ⟨_, rfl, OwnZ.nil _ _, Below.refl _ _⟩
set_option maxRecDepth 20000 in
set_option maxHeartbeats 400000 in
theorem copy_some (ad : Addr) (zs : List Int) (cap : Nat) (w : World) (hn : 8 * zs.length ≤ 140737488355328) (hc : ∀ j x, zs[j]? = some x → w.cell? (ad.add j) = some (.int .i64 x)) :
    Calls Try.prog 23 #[.slice (some ad) zs.length cap] w fun e w' => ∃ v, e = .returned v ∧ OwnZ w' w.heap.size v zs ∧ Below w.heap.size w w' := by
  obtain ⟨i0, hi0, hz0, hz1, hz2⟩ := info_parts info3
  have HN : Hid (∀ j u, (zs.map (Value.int .i64))[j]? = some u → w.cell? (ad.add j) = some u) := fun j u hu => by
    rw [List.getElem?_map] at hu
    obtain ⟨x, hx, rfl⟩ := Option.map_eq_some_iff.1 hu
    exact hc j x hx
  have HO := ints_one zs
  have hl : (zs.map (Value.int .i64)).length = zs.length := by simp
  obtain ⟨n, hnn⟩ : ∃ n, zs.length = n := ⟨_, rfl⟩
  have HZ : Hid (∀ W v, W.ownsRow w.heap.size 3 1 v n (zs.map (Value.int .i64)) → OwnZ W w.heap.size v zs) := fun W v h => by unfold OwnZ; rw [hnn]; exact h
  rw [hnn] at hn hl ⊢
  clear hc hnn
  generalize zs.map (Value.int .i64) = vs at *
  go_enter Try.func23, Try.ntmps23
  go_wp2_with (at_builtin; refine wpList_append_own _ rfl (.tmp 4) (.tmp 5) 32 rfl w.heap.size 3 i0 (.int .i64 0) 1 8 Try.underlying32 hi0 hz0 hz1 hz2 rfl (by decide) _ 0 [] rfl (World.ownsRow_nil _ _ _ _) ad n cap vs rfl (by omega) HN.out HO (by unfold maxLen; omega) (by omega) (Nat.le_refl _) ?_)
  intro v' w1 hown hg _
  go_wp2
  go_ret
  refine ⟨_, rfl, HZ.out _ _ (by simpa using hown), (Below.refl _ _).grown hg (Nat.le_refl _) (fun k hk => by simp [Value.ownBlock] at hk)⟩
theorem copy_ints (zs : List Int) (p : Option Addr) (cap : Nat) (hcap : p = none → cap = 0) (w : World) (hn : 8 * zs.length ≤ 140737488355328) (h : IntsAt w p zs) :
    Calls Try.prog 23 #[.slice p zs.length cap] w fun e w' => ∃ v, e = .returned v ∧ OwnZ w' w.heap.size v zs ∧ Below w.heap.size w w' := by
  cases p with
  | none =>
    rcases Nat.eq_zero_or_pos zs.length with h0 | h0
    · rw [hcap rfl, List.length_eq_zero_iff.1 h0]
      exact copy_none w
    · obtain ⟨b, off, e, _⟩ := h h0
      cases e
  | some ad =>
    refine copy_some ad zs cap w hn fun j x hx => ?_
    obtain ⟨b, off, e, _, hc⟩ := h (by have := (List.getElem?_eq_some_iff.1 hx).1; omega)
    injection e with e
    subst e
    rw [Go.WideShapes.add_plain]
    exact hc j x hx
theorem wpList_pushW {ops : Array Oper} {rest : List Oper} {o : Oper} {a : Act} {W : World} {Q : Exit → Act → World → Prop} (hgd : o.guard = none) (s x : Operand)
    (ho : o.op = .call { callee := .builtin .append, args := #[s, x], argTypes := #[32, 32] }) (base : Nat) (v : Value) (xs : List Int) (y : Int) (hs : a.eval s = v)
    (hx : a.eval x = .slice (some ⟨W.heap.size, 0, none⟩) 1 1) (hown : OwnZ W base v xs) (hn : 8 * (xs.length + 1) ≤ 140737488355328) (hbase : base ≤ W.heap.size)
    (h : ∀ v' w', OwnZ w' base v' (xs ++ [y]) → (W.alloc (.cells #[.int .i64 y] 3)).grownBy w' v.ownBlock → Below base W w' → wpList Try.prog ops Q rest (a.put o.dst v') w') :
    wpList Try.prog ops Q (o :: rest) a (W.alloc (.cells #[.int .i64 y] 3)) := by
  obtain ⟨i0, hi0, hz0, hz1, hz2⟩ := info_parts info3
  refine wpList_append_own _ hgd s x 32 ho base 3 i0 (.int .i64 0) 1 8 Try.underlying32 hi0 hz0 hz1 hz2 rfl (by decide) v xs.length (xs.map (Value.int .i64)) hs (World.ownsRow.alloc hown _) ⟨W.heap.size, 0, none⟩ 1 1 [.int .i64 y] hx rfl (cell_one_new _ _ _)
    (fun u hu => by simp at hu; subst hu; rfl) (by unfold maxLen; omega) (by omega) (by simp; omega) ?_
  intro v' w' hown' hg _
  refine h v' w' ?_ hg (((Below.refl _ _).alloc hbase _).grown hg (by simp; omega) fun k hk => (World.ownsRow.lt hown k hk).1)
  unfold OwnZ
  rw [List.length_append, List.map_append]
  exact hown'
theorem mark_any (k i : Int) (w : World) (hk : 0 ≤ k ∧ k ≤ 100) (hi : 0 ≤ i ∧ i ≤ 4611686018427387904) :
    Calls Try.prog 26 #[.int .i64 k, .int .i64 i] w fun e w' => e = .returned (.int .i64 (-1000 * k - i - 7)) ∧ w' = w := by
  have h1 : IntKind.i64.wrap (-1000 * k) = -1000 * k := by rw [IntKind.wrap_i64]; omega
  have h2 : IntKind.i64.wrap (-1000 * k - i) = -1000 * k - i := by rw [IntKind.wrap_i64]; omega
  have h3 : IntKind.i64.wrap (-1000 * k - i - 7) = -1000 * k - i - 7 := by rw [IntKind.wrap_i64]; omega
  go_enter Try.func26, Try.ntmps26
  go_wp2
  go_ret
  exact ⟨rfl, rfl⟩
/-- k marks of list c, from mark f on. -/
def marks (c : Int) (f k : Nat) : List Int := (List.range k).map fun (i : Nat) => -1000 * c - ((f + i : Nat) : Int) - 7
theorem marks_len (c : Int) (f k : Nat) : (marks c f k).length = k := by simp [marks]
theorem marks_next (c : Int) (f k : Nat) : marks c f (k + 1) = marks c f k ++ [-1000 * c - ((f + k : Nat) : Int) - 7] := by simp [marks, List.range_succ]
set_option maxRecDepth 20000 in
set_option maxHeartbeats 1000000 in
theorem lent_ints (zs : List Int) (p : Option Addr) (cap : Nat) (hcap : p = none → cap = 0) (w : World) (hn : 8 * zs.length ≤ 140737488351232) (h : IntsAt w p zs) :
    Calls Try.prog 19 #[.slice p zs.length cap] w fun e w' => ∃ v, e = .returned v ∧ OwnZ w' w.heap.size v (zs ++ marks 7 0 6) ∧ Below w.heap.size w w' := by
  have hcp := copy_ints zs p cap hcap w (by omega) h
  obtain ⟨n, hnn⟩ : ∃ n, zs.length = n := ⟨_, rfl⟩
  have HL : Hid (zs.length = n) := hnn
  rw [hnn] at hn hcp ⊢
  clear hnn h hcap
  go_enter Try.func19, Try.ntmps19
  go_wp2_with (first | (go_at_call 23; fail))
  refine hcp.mono ?_
  rintro e w1 ⟨v1, rfl, hown1, hb1⟩
  have hown2 : OwnZ w1 w.heap.size v1 (zs ++ marks 7 0 0) := by
    rw [show marks 7 0 0 = [] from rfl, List.append_nil]
    exact hown1
  clear hown1 hcp
  go_wp2
  go_loopw [3, 4] (fun s3 s4 wx => ∃ k : Nat, (k : Int) ≤ 6 ∧ s4 = .int .i64 k ∧ OwnZ wx w.heap.size s3 (zs ++ marks 7 0 k) ∧ Below w.heap.size w wx) (fun _ s4 _ => 6 - (intOf s4).toNat)
  case atStart => exact ⟨0, by omega, rfl, hown2, hb1⟩
  case round =>
    obtain ⟨k, hk, rfl, hown, hbel⟩ := hrel
    by_cases hk2 : (k : Int) < 6
    · clear hown2 hb1
      have hlen : 8 * ((zs ++ marks 7 0 k).length + 1) ≤ 140737488355328 := by rw [List.length_append, marks_len, HL.out]; omega
      go_wp2_with (first | (go_at_call 26; refine (mark_any 7 k _ (by omega) (by omega)).mono ?_; rintro e w' ⟨rfl, rfl⟩) | (at_builtin; refine wpList_pushW rfl (.tmp 11) (.tmp 14) rfl w.heap.size _ (zs ++ marks 7 0 k) (-7000 - (k : Int) - 7) rfl rfl hown hlen hbel.size ?_; intro v' w2 hown' _ hb2))
      refine ⟨⟨k + 1, by omega, by go_num, ?_, hbel.trans hb2⟩, by simp [intOf]; omega⟩
      rw [marks_next, ← List.append_assoc, show (-1000 * 7 - ((0 + k : Nat) : Int) - 7 : Int) = -7000 - (k : Int) - 7 by omega]
      exact hown'
    · have e : k = 6 := by omega
      subst e
      clear hown2 hb1
      go_wp2
      go_ret
      exact ⟨_, rfl, hown, hbel⟩
set_option maxRecDepth 20000 in
set_option maxHeartbeats 400000 in
theorem kept_ints (zs : List Int) (p q : Option Addr) (cap c m : Nat) (hm : zs.length + 6 = m) (hcap : p = none → cap = 0) (w : World) (hn : 8 * zs.length ≤ 140737488351232) (h : IntsAt w p zs) (hF : IntsAt w q (zs ++ marks 7 0 6)) :
    Calls Try.prog 22 #[.slice q m c, .slice p zs.length cap] w fun e w' => e = .returned (.bool true) ∧ Below w.heap.size w w' := by
  have hlt := lent_ints zs p cap hcap w hn h
  have hl : (zs ++ marks 7 0 6).length = m := by rw [List.length_append, marks_len]; exact hm
  have HS : Hid (∀ W p' c', IntsAt W q (zs ++ marks 7 0 6) → IntsAt W p' (zs ++ marks 7 0 6) → Calls Try.prog 28 #[.slice q m c, .slice p' m c'] W fun e' w' => e' = .returned (.bool true) ∧ Below W.heap.size W w') := fun W p' c' h1 h2 => by
    have := sameInts_any (zs ++ marks 7 0 6) (zs ++ marks 7 0 6) q p' c c' W (by rw [hl]; omega) h1 h2
    rw [hl] at this
    simpa using this
  have HF : Hid (IntsAt w q (zs ++ marks 7 0 6)) := hF
  have HL : Hid ((zs ++ marks 7 0 6).length = m) := hl
  clear hF hl hm hn h hcap
  generalize zs.length = n at *
  go_enter Try.func22, Try.ntmps22
  go_wp2_with (first | (go_at_call 19; fail))
  refine hlt.mono ?_
  rintro e w1 ⟨v, rfl, hown, hb1⟩
  obtain ⟨p', c', rfl, hint, _, _⟩ := hown.ints
  rw [HL.out]
  have HI : Hid (IntsAt w1 p' (zs ++ marks 7 0 6)) := hint
  clear hown hint hlt
  go_wp2_with (first | (go_at_call 28; fail))
  refine (HS.out _ _ _ (HF.out.later hb1) HI.out).mono ?_
  rintro e w2 ⟨rfl, hb2⟩
  go_wp2
  go_ret
  exact ⟨rfl, below_next hb1 hb2⟩
end Go.Proofs.Ytcimehjcajdfiaa
