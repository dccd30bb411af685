/- Lists of numbers: copied, lent, kept; they take fewer than 2 to the 47th bytes, less 4096. -/
import Derived.Test.YtgkhheblmknedaaOwn
namespace Go.Proofs.Ytgkhheblmknedaa
open Go.RowKit
theorem ints_one (zs : List Int) : ∀ v ∈ zs.map (Value.int .i64), v.oneCell' = true := fun v hv => by
  obtain ⟨x, _, rfl⟩ := List.mem_map.1 hv
  rfl
set_option maxRecDepth 20000 in
set_option maxHeartbeats 400000 in
theorem copy_none (w : World) : Calls Try.prog 13 #[.slice none 0 0] w fun e w' => ∃ v, e = .returned v ∧ OwnZ w' w.heap.size v [] ∧ Below w.heap.size w w' := by
  obtain ⟨i0, hi0, hz0, hz1, hz2⟩ := info_parts info3
  go_enter Try.func13, Try.ntmps13
  go_wp2_with (at_builtin; refine wpList_append_own_none rfl _ _ 24 rfl w.heap.size 3 i0 1 Try.underlying24 hi0 _ 0 [] rfl (World.ownsRow_nil _ _ _ _) rfl ?_)
  go_ret
  exact ⟨_, rfl, OwnZ.nil _ _, Below.refl _ _⟩
set_option maxRecDepth 20000 in
set_option maxHeartbeats 400000 in
theorem copy_some (ad : Addr) (zs : List Int) (cap : Nat) (w : World) (hn : 8 * zs.length ≤ 140737488355328) (hc : ∀ j x, zs[j]? = some x → w.cell? (ad.add j) = some (.int .i64 x)) :
    Calls Try.prog 13 #[.slice (some ad) zs.length cap] w fun e w' => ∃ v, e = .returned v ∧ OwnZ w' w.heap.size v zs ∧ Below w.heap.size w w' := by
  obtain ⟨i0, hi0, hz0, hz1, hz2⟩ := info_parts info3
  have HN : Hid (∀ j u, (zs.map (Value.int .i64))[j]? = some u → w.cell? (ad.add j) = some u) := fun j u hu => by
    rw [List.getElem?_map] at hu
    obtain ⟨x, hx, rfl⟩ := Option.map_eq_some_iff.1 hu
    exact hc j x hx
  have HO := ints_one zs
  have hl : (zs.map (Value.int .i64)).length = zs.length := by simp
  obtain ⟨n, hnn⟩ : ∃ n, zs.length = n := ⟨_, rfl⟩
  have HZ : Hid (∀ W v, W.ownsRow w.heap.size 3 1 v n (zs.map (Value.int .i64)) → OwnZ W w.heap.size v zs) := fun W v h => by unfold OwnZ; rw [hnn]; exact h
  rw [hnn] at hn hl ⊢
  clear hc hnn
  generalize zs.map (Value.int .i64) = vs at *
  go_enter Try.func13, Try.ntmps13
  go_wp2_with (at_builtin; refine wpList_append_own _ rfl (.tmp 4) (.tmp 5) 24 rfl w.heap.size 3 i0 (.int .i64 0) 1 8 Try.underlying24 hi0 hz0 hz1 hz2 rfl (by decide) _ 0 [] rfl (World.ownsRow_nil _ _ _ _) ad n cap vs rfl (by omega) HN.out HO (by unfold maxLen; omega) (by omega) (Nat.le_refl _) ?_)
  intro v' w1 hown hg _
  go_wp2
  go_ret
  refine ⟨_, rfl, HZ.out _ _ (by simpa using hown), (Below.refl _ _).grown hg (Nat.le_refl _) (fun k hk => by simp [Value.ownBlock] at hk)⟩
theorem copy_ints (zs : List Int) (p : Option Addr) (cap : Nat) (hcap : p = none → cap = 0) (w : World) (hn : 8 * zs.length ≤ 140737488355328) (h : IntsAt w p zs) :
    Calls Try.prog 13 #[.slice p zs.length cap] w fun e w' => ∃ v, e = .returned v ∧ OwnZ w' w.heap.size v zs ∧ Below w.heap.size w w' := by
  cases p with
  | none =>
    rcases Nat.eq_zero_or_pos zs.length with h0 | h0
    · rw [hcap rfl, List.length_eq_zero_iff.1 h0]
      exact copy_none w
    · obtain ⟨b, off, e, _⟩ := h h0
      cases e
  | some ad =>
    refine copy_some ad zs cap w hn fun j x hx => ?_
    obtain ⟨b, off, e, _, hc⟩ := h (by have := (List.getElem?_eq_some_iff.1 hx).1; omega)
    injection e with e
    subst e
    rw [Go.WideShapes.add_plain]
    exact hc j x hx
theorem wpList_pushW {ops : Array Oper} {rest : List Oper} {o : Oper} {a : Act} {W : World} {Q : Exit → Act → World → Prop} (hgd : o.guard = none) (s x : Operand)
    (ho : o.op = .call { callee := .builtin .append, args := #[s, x], argTypes := #[24, 24] }) (base : Nat) (v : Value) (xs : List Int) (y : Int) (hs : a.eval s = v)
    (hx : a.eval x = .slice (some ⟨W.heap.size, 0, none⟩) 1 1) (hown : OwnZ W base v xs) (hn : 8 * (xs.length + 1) ≤ 140737488355328) (hbase : base ≤ W.heap.size)
    (h : ∀ v' w', OwnZ w' base v' (xs ++ [y]) → (W.alloc (.cells #[.int .i64 y] 3)).grownBy w' v.ownBlock → Below base W w' → wpList Try.prog ops Q rest (a.put o.dst v') w') :
    wpList Try.prog ops Q (o :: rest) a (W.alloc (.cells #[.int .i64 y] 3)) := by
  obtain ⟨i0, hi0, hz0, hz1, hz2⟩ := info_parts info3
  refine wpList_append_own _ hgd s x 24 ho base 3 i0 (.int .i64 0) 1 8 Try.underlying24 hi0 hz0 hz1 hz2 rfl (by decide) v xs.length (xs.map (Value.int .i64)) hs (World.ownsRow.alloc hown _) ⟨W.heap.size, 0, none⟩ 1 1 [.int .i64 y] hx rfl (cell_one_new _ _ _)
    (fun u hu => by simp at hu; subst hu; rfl) (by unfold maxLen; omega) (by omega) (by simp; omega) ?_
  intro v' w' hown' hg _
  refine h v' w' ?_ hg (((Below.refl _ _).alloc hbase _).grown hg (by simp; omega) fun k hk => (World.ownsRow.lt hown k hk).1)
  unfold OwnZ
  rw [List.length_append, List.map_append]
  exact hown'
theorem mark_any (k i : Int) (w : World) (hk : 0 ≤ k ∧ k ≤ 100) (hi : 0 ≤ i ∧ i ≤ 4611686018427387904) :
    Calls Try.prog 29 #[.int .i64 k, .int .i64 i] w fun e w' => e = .returned (.int .i64 (-1000 * k - i - 7)) ∧ w' = w := by
  have h1 : IntKind.i64.wrap (-1000 * k) = -1000 * k := by rw [IntKind.wrap_i64]; omega
  have h2 : IntKind.i64.wrap (-1000 * k - i) = -1000 * k - i := by rw [IntKind.wrap_i64]; omega
  have h3 : IntKind.i64.wrap (-1000 * k - i - 7) = -1000 * k - i - 7 := by rw [IntKind.wrap_i64]; omega
  go_enter Try.func29, Try.ntmps29
  go_wp2
  go_ret
  exact ⟨rfl, rfl⟩
/-- k marks of list c, from mark f on. -/
def marks (c : Int) (f k : Nat) : List Int := (List.range k).map fun (i : Nat) => -1000 * c - ((f + i : Nat) : Int) - 7
theorem marks_len (c : Int) (f k : Nat) : (marks c f k).length = k := by simp [marks]
theorem marks_next (c : Int) (f k : Nat) : marks c f (k + 1) = marks c f k ++ [-1000 * c - ((f + k : Nat) : Int) - 7] := by simp [marks, List.range_succ]
set_option maxRecDepth 20000 in
set_option maxHeartbeats 1000000 in
theorem lent_ints (zs : List Int) (p : Option Addr) (cap : Nat) (hcap : p = none → cap = 0) (w : World) (hn : 8 * zs.length ≤ 140737488351232) (h : IntsAt w p zs) :
    Calls Try.prog 9 #[.slice p zs.length cap] w fun e w' => ∃ v, e = .returned v ∧ OwnZ w' w.heap.size v (zs ++ marks 7 0 6) ∧ Below w.heap.size w w' := by
  have hcp := copy_ints zs p cap hcap w (by omega) h
  obtain ⟨n, hnn⟩ : ∃ n, zs.length = n := ⟨_, rfl⟩
  have HL : Hid (zs.length = n) := hnn
  rw [hnn] at hn hcp ⊢
  clear hnn h hcap
  go_enter Try.func9, Try.ntmps9
  go_wp2_with (first | (go_at_call 13; fail))
  refine hcp.mono ?_
  rintro e w1 ⟨v1, rfl, hown1, hb1⟩
  have hown2 : OwnZ w1 w.heap.size v1 (zs ++ marks 7 0 0) := by
    rw [show marks 7 0 0 = [] from rfl, List.append_nil]
    exact hown1
  clear hown1 hcp
  go_wp2
  go_loopw [3, 4] (fun s3 s4 wx => ∃ k : Nat, (k : Int) ≤ 6 ∧ s4 = .int .i64 k ∧ OwnZ wx w.heap.size s3 (zs ++ marks 7 0 k) ∧ Below w.heap.size w wx) (fun _ s4 _ => 6 - (intOf s4).toNat)
  case atStart => exact ⟨0, by omega, rfl, hown2, hb1⟩
  case round =>
    obtain ⟨k, hk, rfl, hown, hbel⟩ := hrel
    by_cases hk2 : (k : Int) < 6
    · clear hown2 hb1
      have hlen : 8 * ((zs ++ marks 7 0 k).length + 1) ≤ 140737488355328 := by rw [List.length_append, marks_len, HL.out]; omega
      go_wp2_with (first | (go_at_call 29; refine (mark_any 7 k _ (by omega) (by omega)).mono ?_; rintro e w' ⟨rfl, rfl⟩) | (at_builtin; refine wpList_pushW rfl (.tmp 11) (.tmp 14) rfl w.heap.size _ (zs ++ marks 7 0 k) (-7000 - (k : Int) - 7) rfl rfl hown hlen hbel.size ?_; intro v' w2 hown' _ hb2))
      refine ⟨⟨k + 1, by omega, by go_num, ?_, hbel.trans hb2⟩, by simp [intOf]; omega⟩
      rw [marks_next, ← List.append_assoc, show (-1000 * 7 - ((0 + k : Nat) : Int) - 7 : Int) = -7000 - (k : Int) - 7 by omega]
      exact hown'
    · have e : k = 6 := by omega
      subst e
      clear hown2 hb1
      go_wp2
      go_ret
      exact ⟨_, rfl, hown, hbel⟩
set_option maxRecDepth 20000 in
set_option maxHeartbeats 400000 in
theorem kept_ints (zs : List Int) (p q : Option Addr) (cap c m : Nat) (hm : zs.length + 6 = m) (hcap : p = none → cap = 0) (w : World) (hn : 8 * zs.length ≤ 140737488351232) (h : IntsAt w p zs) (hF : IntsAt w q (zs ++ marks 7 0 6)) :
    Calls Try.prog 12 #[.slice q m c, .slice p zs.length cap] w fun e w' => e = .returned (.bool true) ∧ Below w.heap.size w w' := by
  have hlt := lent_ints zs p cap hcap w hn h
  have hl : (zs ++ marks 7 0 6).length = m := by rw [List.length_append, marks_len]; exact hm
  have HS : Hid (∀ W p' c', IntsAt W q (zs ++ marks 7 0 6) → IntsAt W p' (zs ++ marks 7 0 6) → Calls Try.prog 17 #[.slice q m c, .slice p' m c'] W fun e' w' => e' = .returned (.bool true) ∧ Below W.heap.size W w') := fun W p' c' h1 h2 => by
    have := sameInts_any (zs ++ marks 7 0 6) (zs ++ marks 7 0 6) q p' c c' W (by rw [hl]; omega) h1 h2
    rw [hl] at this
    simpa using this
  have HF : Hid (IntsAt w q (zs ++ marks 7 0 6)) := hF
  have HL : Hid ((zs ++ marks 7 0 6).length = m) := hl
  clear hF hl hm hn h hcap
  generalize zs.length = n at *
  go_enter Try.func12, Try.ntmps12
  go_wp2_with (first | (go_at_call 9; fail))
  refine hlt.mono ?_
  rintro e w1 ⟨v, rfl, hown, hb1⟩
  obtain ⟨p', c', rfl, hint, _, _⟩ := hown.ints
  rw [HL.out]
  have HI : Hid (IntsAt w1 p' (zs ++ marks 7 0 6)) := hint
  clear hown hint hlt
  go_wp2_with (first | (go_at_call 17; fail))
  refine (HS.out _ _ _ (HF.out.later hb1) HI.out).mono ?_
  rintro e w2 ⟨rfl, hb2⟩
  go_wp2
  go_ret
  exact ⟨rfl, below_next hb1 hb2⟩
end Go.Proofs.Ytgkhheblmknedaa
