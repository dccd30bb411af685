/- Bytes in memory of the call's own: copied and lent, marks behind them; the bytes are fewer than 2 to the 47th, less 4096. -/
import Derived.Test.YtedbgeibhaiheaaSame
import Derived.Laws.AppendOwnNone
namespace Go.Proofs.Ytedbgeibhaiheaa
open Go.RowKit

/-- The slice v owns n bytes, f 0, f 1 .., in a block from base on. -/
def Own (w : World) (base : Nat) (v : Value) (n : Nat) (f : Nat → Int) : Prop := w.ownsRow base 5 1 v n (rowA f n).toList
theorem rowA_len (f : Nat → Int) (n : Nat) : (rowA f n).toList.length = n := by simp [rowA_size]
theorem rowA_cat (f g : Nat → Int) (n m : Nat) (h : Nat → Int) (h1 : ∀ i, i < n → h i = f i) (h2 : ∀ i, i < m → h (n + i) = g i) : (rowA f n).toList ++ (rowA g m).toList = (rowA h (n + m)).toList := by
  apply List.ext_getElem?
  intro i
  by_cases hi : i < n
  · rw [List.getElem?_append_left (by rw [rowA_len]; exact hi)]
    simp only [Array.getElem?_toList]
    rw [rowA_get f n i hi, rowA_get h (n + m) i (by omega), h1 i hi]
  · rw [List.getElem?_append_right (by rw [rowA_len]; omega), rowA_len]
    by_cases hm : i < n + m
    · simp only [Array.getElem?_toList]
      rw [rowA_get g m (i - n) (by omega), rowA_get h (n + m) i hm, ← h2 (i - n) (by omega), show n + (i - n) = i by omega]
    · rw [List.getElem?_eq_none (by rw [rowA_len]; omega), List.getElem?_eq_none (by rw [rowA_len]; omega)]
theorem rowA_snoc (f : Nat → Int) (n : Nat) (x : Int) : (rowA f n).toList ++ [.int .u8 x] = (rowA (upd f n x) (n + 1)).toList := by
  have e : ([.int .u8 x] : List Value) = (rowA (fun _ => x) 1).toList := rfl
  rw [e]
  exact rowA_cat f _ n 1 _ (fun i hi => by unfold upd; rw [if_neg (by omega)]) (fun i hi => by unfold upd; rw [if_pos (by omega)])
theorem Own.lies {w : World} {base : Nat} {v : Value} {n : Nat} {f : Nat → Int} (h : Own w base v n f) : Lies w v n f := by
  obtain ⟨_, h⟩ := h
  rcases h with ⟨rfl, rfl⟩ | ⟨g, cap, cur, rfl, hg, hh, hn, hm, hs, ht⟩
  · exact .inl ⟨_, _, rfl, rfl, fun _ => rfl⟩
  · refine .inr ⟨g, 0, cap, rfl, by omega, hn, (Array.getElem?_eq_some_iff.1 hh).1, fun i hi => ?_⟩
    rw [cell_of_row w g (0 + i) cur 5 _ hh, Nat.zero_add, ← Array.getElem?_toList]
    have := congrArg (fun l => l[i]?) ht
    simp only [Nat.mul_one] at this
    rw [List.getElem?_take_of_lt hi] at this
    rw [this, Array.getElem?_toList]
    exact rowA_get f n i hi
/-- Whoever has the first bytes has fewer of them, too. -/
theorem Own.nil (w : World) (base : Nat) (f : Nat → Int) : Own w base (.slice none 0 0) 0 f := World.ownsRow_nil w base 5 1

set_option maxRecDepth 20000 in
set_option maxHeartbeats 400000 in
theorem mark_any (k i : Int) (w : World) (hk : 0 ≤ k ∧ k ≤ 100) (hi : 0 ≤ i ∧ i ≤ 4611686018427387904) :
    Calls Try.prog 46 #[.int .i64 k, .int .i64 i] w fun e w' => e = .returned (.int .u8 ((7 * k + i + 1) % 256)) ∧ w' = w := by
  go_enter Try.func46, Try.ntmps46
  go_wp2
  go_ret
  exact ⟨rfl, rfl⟩

set_option maxRecDepth 20000 in
set_option maxHeartbeats 400000 in
theorem copy_nil (w : World) (f : Nat → Int) :
    Calls Try.prog 29 #[.slice none 0 0] w fun e w' => ∃ v, e = .returned v ∧ Own w' w.heap.size v 0 f ∧ Below w.heap.size w w' := by
  obtain ⟨i0, hi0, hz0, hz1, hz2⟩ := info_parts info5
  go_enter Try.func29, Try.ntmps29
  go_wp2_with (at_builtin; refine wpList_append_own_none rfl _ _ 22 rfl w.heap.size 5 i0 1 Try.underlying22 hi0 _ 0 [] rfl (World.ownsRow_nil _ _ _ _) rfl ?_)
  go_ret
  exact ⟨_, rfl, Own.nil _ _ _, Below.refl _ _⟩

set_option maxRecDepth 20000 in
set_option maxHeartbeats 400000 in
theorem copy_some (ad : Addr) (n cap : Nat) (w : World) (f : Nat → Int) (hn : n ≤ 140737488355328) (hc : ∀ i, i < n → w.cell? (ad.add i) = some (.int .u8 (f i))) :
    Calls Try.prog 29 #[.slice (some ad) n cap] w fun e w' => ∃ v, e = .returned v ∧ Own w' w.heap.size v n f ∧ Below w.heap.size w w' := by
  obtain ⟨i0, hi0, hz0, hz1, hz2⟩ := info_parts info5
  have hnews : ∀ j u, (rowA f n).toList[j]? = some u → w.cell? (ad.add j) = some u := fun j u hu => by
    have hj : j < n := by have := (List.getElem?_eq_some_iff.1 hu).1; rwa [rowA_len] at this
    rw [hc j hj]
    rw [Array.getElem?_toList, rowA_get f n j hj] at hu
    exact hu
  have HN : Hid (∀ j u, (rowA f n).toList[j]? = some u → w.cell? (ad.add j) = some u) := hnews
  clear hc hnews
  go_enter Try.func29, Try.ntmps29
  go_wp2_with (at_builtin; refine wpList_append_own _ rfl _ _ 22 rfl w.heap.size 5 i0 (.int .u8 0) 1 1 Try.underlying22 hi0 hz0 hz1 hz2 rfl (by decide) _ 0 [] rfl (World.ownsRow_nil _ _ _ _) ad n cap (rowA f n).toList rfl (by rw [rowA_len]; omega) HN.out (rowA_one f n) (by unfold maxLen; omega) (by omega) (Nat.le_refl _) ?_)
  intro v' w1 hown hg _
  go_wp2
  go_ret
  refine ⟨_, rfl, ?_, (Below.refl _ _).grown hg (Nat.le_refl _) (fun k hk => by simp [Value.ownBlock] at hk)⟩
  unfold Own
  simpa using hown
theorem copy_lies {w : World} {p : Value} {n : Nat} {f : Nat → Int} (h : Lies w p n f) (hn : n ≤ 140737488355328) :
    Calls Try.prog 29 #[p] w fun e w' => ∃ v, e = .returned v ∧ Own w' w.heap.size v n f ∧ Below w.heap.size w w' := by
  rcases h with ⟨a, cap, rfl, rfl, ha⟩ | ⟨b, off, cap, rfl, _, _, _, hc⟩
  · cases a with
    | none => rw [ha rfl]; exact copy_nil w f
    | some x => exact copy_some x 0 cap w f (by omega) (fun i hi => absurd hi (by omega))
  · exact copy_some _ n cap w f hn (fun i hi => by rw [Go.WideShapes.add_plain]; exact hc i hi)

theorem wpList_push5 {ops : Array Oper} {rest : List Oper} {o : Oper} {a : Act} {W : World} {Q : Exit → Act → World → Prop} (hgd : o.guard = none) (s x : Operand)
    (ho : o.op = .call { callee := .builtin .append, args := #[s, x], argTypes := #[22, 22] }) (base : Nat) (v : Value) (n : Nat) (f : Nat → Int) (y : Int) (hs : a.eval s = v)
    (hx : a.eval x = .slice (some ⟨W.heap.size, 0, none⟩) 1 1) (hown : Own W base v n f) (hn : n + 1 ≤ 140737488355328) (hbase : base ≤ W.heap.size)
    (h : ∀ v' w', Own w' base v' (n + 1) (upd f n y) → (W.alloc (.cells #[.int .u8 y] 5)).grownBy w' v.ownBlock → Below base W w' → wpList Try.prog ops Q rest (a.put o.dst v') w') :
    wpList Try.prog ops Q (o :: rest) a (W.alloc (.cells #[.int .u8 y] 5)) := by
  obtain ⟨i0, hi0, hz0, hz1, hz2⟩ := info_parts info5
  refine wpList_append_own _ hgd s x 22 ho base 5 i0 (.int .u8 0) 1 1 Try.underlying22 hi0 hz0 hz1 hz2 rfl (by decide) v n (rowA f n).toList hs (World.ownsRow.alloc hown _) ⟨W.heap.size, 0, none⟩ 1 1 [.int .u8 y] hx rfl (cell_one_new _ _ _)
    (fun u hu => by simp at hu; subst hu; rfl) (by unfold maxLen; omega) (by omega) (by simp; omega) ?_
  intro v' w' hown' hg _
  refine h v' w' ?_ hg (((Below.refl _ _).alloc hbase _).grown hg (by simp; omega) fun k hk => (World.ownsRow.lt hown k hk).1)
  unfold Own
  rw [rowA_snoc] at hown'
  exact hown'

/-- n bytes of f, marks of list k behind them. -/
def lentF (f : Nat → Int) (n : Nat) (k : Int) : Nat → Int := fun i => if i < n then f i else (7 * k + ((i - n : Nat) : Int) + 1) % 256

set_option maxRecDepth 20000 in
set_option maxHeartbeats 1000000 in
theorem lent_lies {w : World} {p : Value} {n : Nat} {f : Nat → Int} (h : Lies w p n f) (hn : n ≤ 140737488351232) :
    Calls Try.prog 22 #[p] w fun e w' => ∃ v, e = .returned v ∧ Own w' w.heap.size v (n + 6) (lentF f n 7) ∧ Below w.heap.size w w' := by
  go_enter Try.func22, Try.ntmps22
  go_wp2_with fail
  refine (copy_lies h (by omega)).mono ?_
  rintro e w1 ⟨v1, rfl, hown1, hb1⟩
  have hown2 : Own w1 w.heap.size v1 (n + 0) (lentF f n 7) := by
    unfold Own at *
    rw [Nat.add_zero, rowA_congr (g := f) fun i hi => by unfold lentF; rw [if_pos hi]]
    exact hown1
  clear hown1
  go_wp2
  go_loopw [3, 4] (fun s3 s4 wx => ∃ k : Nat, (k : Int) ≤ 6 ∧ s4 = .int .i64 k ∧ Own wx w.heap.size s3 (n + k) (lentF f n 7) ∧ Below w.heap.size w wx) (fun _ s4 _ => 6 - (intOf s4).toNat)
  case atStart => exact ⟨0, by omega, rfl, hown2, hb1⟩
  case round =>
    obtain ⟨k, hk, rfl, hown, hbel⟩ := hrel
    by_cases hk2 : (k : Int) < 6
    · clear hown2 hb1
      go_wp2_with (first | (go_at_call 46; refine (mark_any 7 k _ (by omega) (by omega)).mono ?_; rintro e w' ⟨rfl, rfl⟩) | (at_builtin; refine wpList_push5 rfl (.tmp 11) (.tmp 14) rfl w.heap.size _ (n + k) (lentF f n 7) _ rfl rfl hown (by omega) hbel.size ?_; intro v' w2 hown' _ hb2))
      refine ⟨⟨k + 1, by omega, by go_num, ?_, hbel.trans hb2⟩, by simp [intOf]; omega⟩
      rw [show n + (k + 1) = n + k + 1 by omega]
      unfold Own at *
      rw [rowA_congr (g := upd (lentF f n 7) (n + k) _) fun i hi => ?_]
      · exact hown'
      · unfold upd
        by_cases e : i = n + k
        · rw [if_pos e]; unfold lentF; rw [if_neg (by omega), show i - n = k by omega]; rfl
        · rw [if_neg e]
    · have e : k = 6 := by omega
      subst e
      clear hown2 hb1
      go_wp2
      go_ret
      exact ⟨_, rfl, hown, hbel⟩
end Go.Proofs.Ytedbgeibhaiheaa
