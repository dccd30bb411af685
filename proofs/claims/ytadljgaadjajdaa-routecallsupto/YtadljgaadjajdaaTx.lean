/- Lists of texts in memory: held against each other, copied, lent, kept; they take fewer than 2 to the 47th bytes, less 4096. -/
import Derived.Test.YtadljgaadjajdaaEn4t
import Derived.Deep.LoopGhost
namespace Go.Proofs.Ytadljgaadjajdaa
open Go.RowKit Go.Maps
theorem info9 : (Try.prog.info? 9).map (fun i => (i.zero, i.size, i.bytes)) = some (some (.string ⟨#[]⟩), 1, 16) := by kernel_rfl
/-- Numbers that lie in memory. -/
def TxAt (w : World) (p : Option Addr) (zs : List ByteArray) : Prop := 0 < zs.length → ∃ b off, p = some ⟨b, off, none⟩ ∧ b < w.heap.size ∧ ∀ j x, zs[j]? = some x → w.cell? ⟨b, off + j, none⟩ = some (.string x)
theorem texts_of_row {w : World} {base : Nat} {v : Value} {zs : List ByteArray} (h : w.ownsRow base 9 1 v zs.length (zs.map Value.string)) : ∃ p c, v = .slice p zs.length c ∧ TxAt w p zs ∧ zs.length ≤ c ∧ ∀ b off, p = some ⟨b, off, none⟩ → base ≤ b := by
  rcases h.2 with ⟨h1, h2⟩ | ⟨g, cap, cur, h1, hg, hh, hc, _⟩
  · exact ⟨none, 0, by rw [h1, h2], fun q => by omega, by omega, fun _ _ q => by cases q⟩
  · refine ⟨_, cap, h1, fun _ => ⟨g, 0, rfl, (h.lt g (by rw [h1]; rfl)).2, fun j x hx => ?_⟩, hc, fun b off q => by injection q with q; injection q with q1; omega⟩
    have q := h.cells (g := g) (by rw [h1]; rfl) j (.string x) (by rw [List.getElem?_map, hx]; rfl)
    rw [Go.WideShapes.add_plain] at q
    exact q
theorem eqB (c d : ByteArray) : (c.toList == d.toList) = decide (c = d) := by
  by_cases h : c = d
  · subst h; simp
  · rw [decide_eq_false h]
    apply beq_eq_false_iff_ne.2
    intro q
    rw [ByteArray.toList_eq, ByteArray.toList_eq] at q
    exact h (ByteArray.ext (by rw [← Array.toArray_toList (xs := c.data), q]))
theorem TxAt.later {w W : World} {p : Option Addr} {l : List ByteArray} (h : TxAt w p l) (hb : Below w.heap.size w W) : TxAt W p l := fun h0 => by
  obtain ⟨b, off, h1, h2, h3⟩ := h h0
  exact ⟨b, off, h1, Nat.lt_of_lt_of_le h2 hb.size, fun j x hx => (hb.cell (p := ⟨b, off + j, none⟩) h2).trans (h3 j x hx)⟩
set_option maxRecDepth 20000 in
set_option maxHeartbeats 1000000 in
theorem sameTexts_any (s t : List ByteArray) (p q : Option Addr) (cp cq : Nat) (w : World) (hls : s.length < 9223372036854775807) (hs : TxAt w p s) (ht : TxAt w q t) :
    Calls Try.prog 12 #[.slice p s.length cp, .slice q t.length cq] w fun e w' => e = .returned (.bool (decide (s = t))) ∧ Below w.heap.size w w' := by
  by_cases hl : s.length = t.length
  · have HS : Hid (TxAt w p s) := hs
    have HT : Hid (TxAt w q t) := ht
    have HR : Hid (decide (s = t) = decide (s.drop 0 = t.drop 0)) := rfl
    generalize decide (s = t) = res at *
    obtain ⟨n, hn⟩ : ∃ n, s.length = n := ⟨_, rfl⟩
    have hn2 : t.length = n := by omega
    rw [hn, hn2]
    rw [hn] at hls
    have HL : Hid (s.length = n ∧ t.length = n) := ⟨hn, hn2⟩
    clear hs ht hl hn hn2
    go_enter Try.func12, Try.ntmps12
    go_wp2
    go_loopw [5] (fun s5 wx => ∃ k : Nat, k ≤ n ∧ s5 = .int .i64 k ∧ Hid (Below w.heap.size w wx) ∧ Hid (res = decide (s.drop k = t.drop k))) (fun s5 _ => n - (intOf s5).toNat)
    case atStart => exact ⟨0, by omega, rfl, Below.refl _ _, HR.out⟩
    case round =>
      obtain ⟨k, hk, rfl, HB, HR2⟩ := hrel
      clear HR
      by_cases hk2 : (k : Int) < n
      · obtain ⟨hn, hn2⟩ := HL.out
        have hc : s[k]? = some s[k] := List.getElem?_eq_getElem (by omega)
        have hd : t[k]? = some t[k] := List.getElem?_eq_getElem (by omega)
        have hcd : s.drop k = s[k] :: s.drop (k + 1) := List.drop_eq_getElem_cons (by omega)
        have hdd : t.drop k = t[k] :: t.drop (k + 1) := List.drop_eq_getElem_cons (by omega)
        obtain ⟨b1, o1, rfl, l1, C1⟩ := HS.out (by omega)
        obtain ⟨b2, o2, rfl, l2, C2⟩ := HT.out (by omega)
        generalize s[k] = c at hc hcd
        generalize t[k] = d at hd hdd
        have hcdB : (c.toList == d.toList) = decide (c = d) := eqB c d
        have q1 : wr.cell? ⟨b1, o1 + k, none⟩ = some (.string c) := (HB.out.cell (p := ⟨b1, o1 + k, none⟩) l1).trans (C1 k c hc)
        have q2 : wr.cell? ⟨b2, o2 + k, none⟩ = some (.string d) := (HB.out.cell (p := ⟨b2, o2 + k, none⟩) l2).trans (C2 k d hd)
        have hR := HR2.out
        rw [hcd, hdd] at hR
        clear HR2 C1 C2 hcd hdd hc hd hn hn2
        by_cases hcdd : c = d
        · subst hcdd
          have HR3 : Hid (res = decide (s.drop (k + 1) = t.drop (k + 1))) := by
            have e : res = decide (s.drop (k + 1) = t.drop (k + 1)) := by rw [hR]; simp
            exact e
          have g0 : (c.toList == c.toList) = true := by simp
          clear hcdB
          clear hR
          go_wp2
          go_quiet (fail)
          go_wp2
          exact ⟨⟨k + 1, by omega, by go_num, belowN HB.out _, HR3.out⟩, by simp [intOf]; omega⟩
        · have hr0 : res = false := by rw [hR]; simp [hcdd]
          have g0 : (c.toList == d.toList) = false := by rw [hcdB]; exact decide_eq_false hcdd
          clear hcdB
          clear hR
          subst hr0
          go_wp2
          go_quiet (fail)
          go_wp2
          go_ret
          exact ⟨rfl, belowN HB.out _⟩
      · obtain rfl : k = n := by omega
        have hr0 : res = true := by
          obtain ⟨hn, hn2⟩ := HL.out
          rw [HR2.out, List.drop_of_length_le (by omega), List.drop_of_length_le (by omega)]
          rfl
        subst hr0
        go_wp2
        go_ret
        exact ⟨rfl, HB.out⟩
  · have e : decide (s = t) = false := decide_eq_false fun q => hl (by rw [q])
    rw [e]
    have hlI : ¬ ((s.length : Int) = t.length) := by omega
    clear e hs ht
    go_enter Try.func12, Try.ntmps12
    go_wp2
    go_ret
    exact ⟨rfl, Below.refl _ _⟩
/-- The slice v owns the numbers zs, in a block from base on. -/
def OwnS (w : World) (base : Nat) (v : Value) (zs : List ByteArray) : Prop := w.ownsRow base 9 1 v zs.length (zs.map Value.string)
theorem OwnS.nil (w : World) (base : Nat) : OwnS w base (.slice none 0 0) [] := World.ownsRow_nil w base 9 1
theorem OwnS.later {w w' : World} {base : Nat} {v : Value} {xs : List ByteArray} (h : OwnS w base v xs) (hb : Below w.heap.size w w') : OwnS w' base v xs := by
  refine ⟨h.1, ?_⟩
  rcases h.2 with hn | ⟨g, cap, cur, rfl, hB, hg, rest⟩
  · exact .inl hn
  · exact .inr ⟨g, cap, cur, rfl, hB, heap_kept hg hb, rest⟩
theorem OwnS.texts {w : World} {base : Nat} {v : Value} {zs : List ByteArray} (h : OwnS w base v zs) : ∃ p c, v = .slice p zs.length c ∧ TxAt w p zs ∧ zs.length ≤ c ∧ ∀ b off, p = some ⟨b, off, none⟩ → base ≤ b := texts_of_row h
/-- A block below, or beside the list's own, lies as it lay. -/
theorem pushed_kept {W w' : World} {o o' : Obj} {v : Value} {g : Nat} (hg : (W.alloc o).grownBy w' v.ownBlock) (hv : ∀ k, v.ownBlock = some k → k ≠ g) (h : W.heap[g]? = some o') : w'.heap[g]? = some o' := by
  have hlt := (Array.getElem?_eq_some_iff.1 h).1
  rw [hg.block g (by simp; omega) (by
    cases e : v.ownBlock with
    | none => simp
    | some k => simp; exact fun q => hv k e q.symm)]
  rw [heap_alloc_old W o hlt]
  exact h
theorem texts_one (zs : List ByteArray) : ∀ v ∈ zs.map Value.string, v.oneCell' = true := fun v hv => by
  obtain ⟨x, _, rfl⟩ := List.mem_map.1 hv
  rfl
set_option maxRecDepth 20000 in
set_option maxHeartbeats 400000 in
theorem copy_none (w : World) : Calls Try.prog 14 #[.slice none 0 0] w fun e w' => ∃ v, e = .returned v ∧ OwnS w' w.heap.size v [] ∧ Below w.heap.size w w' := by
  obtain ⟨i0, hi0, hz0, hz1, hz2⟩ := info_parts info9
  go_enter Try.func14, Try.ntmps14
  go_wp2_with (at_builtin; refine wpList_append_own_none rfl _ _ 22 rfl w.heap.size 9 i0 1 Try.underlying22 hi0 _ 0 [] rfl (World.ownsRow_nil _ _ _ _) rfl ?_)
  go_ret
  exact ⟨_, rfl, OwnS.nil _ _, Below.refl _ _⟩
set_option maxRecDepth 20000 in
set_option maxHeartbeats 400000 in
theorem copy_some (ad : Addr) (zs : List ByteArray) (cap : Nat) (w : World) (hn : 16 * zs.length ≤ 140737488355328) (hc : ∀ j x, zs[j]? = some x → w.cell? (ad.add j) = some (.string x)) :
    Calls Try.prog 14 #[.slice (some ad) zs.length cap] w fun e w' => ∃ v, e = .returned v ∧ OwnS w' w.heap.size v zs ∧ Below w.heap.size w w' := by
  obtain ⟨i0, hi0, hz0, hz1, hz2⟩ := info_parts info9
  have HN : Hid (∀ j u, (zs.map Value.string)[j]? = some u → w.cell? (ad.add j) = some u) := fun j u hu => by
    rw [List.getElem?_map] at hu
    obtain ⟨x, hx, rfl⟩ := Option.map_eq_some_iff.1 hu
    exact hc j x hx
  have HO := texts_one zs
  have hl : (zs.map Value.string).length = zs.length := by simp
  obtain ⟨n, hnn⟩ : ∃ n, zs.length = n := ⟨_, rfl⟩
  have HZ : Hid (∀ W v, W.ownsRow w.heap.size 9 1 v n (zs.map Value.string) → OwnS W w.heap.size v zs) := fun W v h => by unfold OwnS; rw [hnn]; exact h
  rw [hnn] at hn hl ⊢
  clear hc hnn
  generalize zs.map Value.string = vs at *
  go_enter Try.func14, Try.ntmps14
  go_wp2_with (at_builtin; refine wpList_append_own _ rfl (.tmp 4) (.tmp 5) 22 rfl w.heap.size 9 i0 (.string ⟨#[]⟩) 1 16 Try.underlying22 hi0 hz0 hz1 hz2 rfl (by decide) _ 0 [] rfl (World.ownsRow_nil _ _ _ _) ad n cap vs rfl (by omega) HN.out HO (by unfold maxLen; omega) (by omega) (Nat.le_refl _) ?_)
  intro v' w1 hown hg _
  go_wp2
  go_ret
  refine ⟨_, rfl, HZ.out _ _ (by simpa using hown), (Below.refl _ _).grown hg (Nat.le_refl _) (fun k hk => by simp [Value.ownBlock] at hk)⟩
theorem copy_texts (zs : List ByteArray) (p : Option Addr) (cap : Nat) (hcap : p = none → cap = 0) (w : World) (hn : 16 * zs.length ≤ 140737488355328) (h : TxAt w p zs) :
    Calls Try.prog 14 #[.slice p zs.length cap] w fun e w' => ∃ v, e = .returned v ∧ OwnS w' w.heap.size v zs ∧ Below w.heap.size w w' := by
  cases p with
  | none =>
    rcases Nat.eq_zero_or_pos zs.length with h0 | h0
    · rw [hcap rfl, List.length_eq_zero_iff.1 h0]
      exact copy_none w
    · obtain ⟨b, off, e, _⟩ := h h0
      cases e
  | some ad =>
    refine copy_some ad zs cap w hn fun j x hx => ?_
    obtain ⟨b, off, e, _, hc⟩ := h (by have := (List.getElem?_eq_some_iff.1 hx).1; omega)
    injection e with e
    subst e
    rw [Go.WideShapes.add_plain]
    exact hc j x hx
theorem wpList_pushW {ops : Array Oper} {rest : List Oper} {o : Oper} {a : Act} {W : World} {Q : Exit → Act → World → Prop} (hgd : o.guard = none) (s x : Operand)
    (ho : o.op = .call { callee := .builtin .append, args := #[s, x], argTypes := #[22, 22] }) (base : Nat) (v : Value) (xs : List ByteArray) (y : ByteArray) (hs : a.eval s = v)
    (hx : a.eval x = .slice (some ⟨W.heap.size, 0, none⟩) 1 1) (hown : OwnS W base v xs) (hn : 16 * (xs.length + 1) ≤ 140737488355328) (hbase : base ≤ W.heap.size)
    (h : ∀ v' w', OwnS w' base v' (xs ++ [y]) → (W.alloc (.cells #[.string y] 9)).grownBy w' v.ownBlock → Below base W w' → wpList Try.prog ops Q rest (a.put o.dst v') w') :
    wpList Try.prog ops Q (o :: rest) a (W.alloc (.cells #[.string y] 9)) := by
  obtain ⟨i0, hi0, hz0, hz1, hz2⟩ := info_parts info9
  refine wpList_append_own _ hgd s x 22 ho base 9 i0 (.string ⟨#[]⟩) 1 16 Try.underlying22 hi0 hz0 hz1 hz2 rfl (by decide) v xs.length (xs.map Value.string) hs (World.ownsRow.alloc hown _) ⟨W.heap.size, 0, none⟩ 1 1 [.string y] hx rfl (cell_one_new _ _ _)
    (fun u hu => by simp at hu; subst hu; rfl) (by unfold maxLen; omega) (by omega) (by simp; omega) ?_
  intro v' w' hown' hg _
  refine h v' w' ?_ hg (((Below.refl _ _).alloc hbase _).grown hg (by simp; omega) fun k hk => (World.ownsRow.lt hown k hk).1)
  unfold OwnS
  rw [List.length_append, List.map_append]
  exact hown'
/-- A mark: 'mark' and two bytes. -/
def mkS (k i : Int) : ByteArray := (⟨#[109, 97, 114, 107]⟩ : ByteArray) ++ ⟨#[toB (k % 256), toB (i % 256)]⟩
set_option maxRecDepth 20000 in
set_option maxHeartbeats 1000000 in
theorem mark_any (k i : Int) (w : World) : Calls Try.prog 24 #[.int .i64 k, .int .i64 i] w fun e w' => e = .returned (.string (mkS k i)) ∧ Below w.heap.size w w' := by
  have h1 : IntKind.u8.wrap k = k % 256 := by simp [IntKind.wrap, IntKind.bits, IntKind.signed]
  have h2 : IntKind.u8.wrap i = i % 256 := by simp [IntKind.wrap, IntKind.bits, IntKind.signed]
  have HM : Hid (mkS k i = (⟨#[109, 97, 114, 107]⟩ : ByteArray) ++ ⟨#[toB (k % 256), toB (i % 256)]⟩) := rfl
  have b1 : 0 ≤ k % 256 ∧ k % 256 ≤ 255 := by omega
  have b2 : 0 ≤ i % 256 ∧ i % 256 ≤ 255 := by omega
  generalize mkS k i = M at *
  generalize k % 256 = x at *
  generalize i % 256 = y at *
  have hb := below_new w (.cells #[.int .u8 x, .int .u8 y] 5)
  have hcv : (convert 43 9 (.slice (some ⟨w.heap.size, 0, none⟩) 2 2)).run Try.prog (w.alloc (.cells #[.int .u8 x, .int .u8 y] 5)) = .ok (.string ⟨#[toB x, toB y]⟩) (w.alloc (.cells #[.int .u8 x, .int .u8 y] 5)) :=
    run_convert_bytes_back (P := Try.prog) (w.alloc (.cells #[.int .u8 x, .int .u8 y] 5)) 43 9 5 ⟨w.heap.size, 0, none⟩ 2 [toB x, toB y] Try.underlying43 Try.underlying5 Try.underlying9 fun j hj => by
      rw [Go.WideShapes.add_plain, Nat.zero_add, cell_of_row _ _ j _ 5 _ (heap_alloc_new w _)]
      match j, hj with
      | 0, _ => simp [toB_nat b1]
      | 1, _ => simp [toB_nat b2]
  have HB : Hid _ := hb
  have had : ∀ u : World, (Op.stringOp .add (⟨#[109, 97, 114, 107]⟩ : ByteArray) ⟨#[toB x, toB y]⟩).run Try.prog u = .ok (.string M) u := fun u => by
    have hz : (⟨#[toB x, toB y]⟩ : ByteArray).size = 2 := rfl
    have hz2 : (⟨#[109, 97, 114, 107]⟩ : ByteArray).size = 4 := rfl
    rw [HM.out]
    exact run_string_add_sum (P := Try.prog) u _ _ (by omega)
  clear hb HM b1 b2
  generalize (⟨#[toB x, toB y]⟩ : ByteArray) = T at *
  go_enter Try.func24, Try.ntmps24
  go_wp2
  go_ret
  exact ⟨rfl, HB.out⟩
/-- k marks of list c, from mark f on. -/
def marks (c : Int) (f k : Nat) : List ByteArray := (List.range k).map fun (i : Nat) => mkS c ((f + i : Nat) : Int)
theorem marks_len (c : Int) (f k : Nat) : (marks c f k).length = k := by simp [marks]
theorem marks_next (c : Int) (f k : Nat) : marks c f (k + 1) = marks c f k ++ [mkS c ((f + k : Nat) : Int)] := by simp [marks, List.range_succ]
set_option maxRecDepth 20000 in
set_option maxHeartbeats 1000000 in
theorem lent_texts (zs : List ByteArray) (p : Option Addr) (cap : Nat) (hcap : p = none → cap = 0) (w : World) (hn : 16 * zs.length ≤ 140737488351232) (h : TxAt w p zs) :
    Calls Try.prog 9 #[.slice p zs.length cap] w fun e w' => ∃ v, e = .returned v ∧ OwnS w' w.heap.size v (zs ++ marks 7 0 6) ∧ Below w.heap.size w w' := by
  have hcp := copy_texts zs p cap hcap w (by omega) h
  obtain ⟨n, hnn⟩ : ∃ n, zs.length = n := ⟨_, rfl⟩
  have HL : Hid (zs.length = n) := hnn
  rw [hnn] at hn hcp ⊢
  clear hnn h hcap
  go_enter Try.func9, Try.ntmps9
  go_wp2_with (first | (go_at_call 14; fail))
  refine hcp.mono ?_
  rintro e w1 ⟨v1, rfl, hown1, hb1⟩
  have hown2 : OwnS w1 w.heap.size v1 (zs ++ marks 7 0 0) := by
    rw [show marks 7 0 0 = [] from rfl, List.append_nil]
    exact hown1
  clear hown1 hcp
  go_wp2
  go_loopw [3, 4] (fun s3 s4 wx => ∃ k : Nat, (k : Int) ≤ 6 ∧ s4 = .int .i64 k ∧ OwnS wx w.heap.size s3 (zs ++ marks 7 0 k) ∧ Below w.heap.size w wx) (fun _ s4 _ => 6 - (intOf s4).toNat)
  case atStart => exact ⟨0, by omega, rfl, hown2, hb1⟩
  case round =>
    obtain ⟨k, hk, rfl, hown, hbel⟩ := hrel
    by_cases hk2 : (k : Int) < 6
    · clear hown2 hb1
      have hlen : 16 * ((zs ++ marks 7 0 k).length + 1) ≤ 140737488355328 := by rw [List.length_append, marks_len, HL.out]; omega
      go_wp2_with (first | (go_at_call 24; fail))
      refine (mark_any 7 k _).mono ?_
      rintro e w' ⟨rfl, hbm⟩
      have hownm := hown.later hbm
      have hbelm := below_next hbel hbm
      clear hown
      generalize hmk : mkS 7 (k : Int) = mk at *
      have HMK : Hid _ := hmk
      clear hmk
      go_wp2_with (at_builtin; refine wpList_pushW rfl (.tmp 11) (.tmp 14) rfl w.heap.size _ (zs ++ marks 7 0 k) mk rfl rfl hownm hlen hbelm.size ?_; intro v' w2 hown' _ hb2)
      refine ⟨⟨k + 1, by omega, by go_num, ?_, hbelm.trans hb2⟩, by simp [intOf]; omega⟩
      rw [marks_next, ← List.append_assoc, show ((0 + k : Nat) : Int) = (k : Int) by omega, HMK.out]
      exact hown'
    · have e : k = 6 := by omega
      subst e
      clear hown2 hb1
      go_wp2
      go_ret
      exact ⟨_, rfl, hown, hbel⟩
set_option maxRecDepth 20000 in
set_option maxHeartbeats 400000 in
theorem kept_texts (zs : List ByteArray) (p q : Option Addr) (cap c m : Nat) (hm : zs.length + 6 = m) (hcap : p = none → cap = 0) (w : World) (hn : 16 * zs.length ≤ 140737488351232) (h : TxAt w p zs) (hF : TxAt w q (zs ++ marks 7 0 6)) :
    Calls Try.prog 13 #[.slice q m c, .slice p zs.length cap] w fun e w' => e = .returned (.bool true) ∧ Below w.heap.size w w' := by
  have hlt := lent_texts zs p cap hcap w hn h
  have hl : (zs ++ marks 7 0 6).length = m := by rw [List.length_append, marks_len]; exact hm
  have HS : Hid (∀ W p' c', TxAt W q (zs ++ marks 7 0 6) → TxAt W p' (zs ++ marks 7 0 6) → Calls Try.prog 12 #[.slice q m c, .slice p' m c'] W fun e' w' => e' = .returned (.bool true) ∧ Below W.heap.size W w') := fun W p' c' h1 h2 => by
    have := sameTexts_any (zs ++ marks 7 0 6) (zs ++ marks 7 0 6) q p' c c' W (by rw [hl]; omega) h1 h2
    rw [hl] at this
    simpa using this
  have HF : Hid (TxAt w q (zs ++ marks 7 0 6)) := hF
  have HL : Hid ((zs ++ marks 7 0 6).length = m) := hl
  clear hF hl hm hn h hcap
  generalize zs.length = n at *
  go_enter Try.func13, Try.ntmps13
  go_wp2_with (first | (go_at_call 9; fail))
  refine hlt.mono ?_
  rintro e w1 ⟨v, rfl, hown, hb1⟩
  obtain ⟨p', c', rfl, hint, _, _⟩ := hown.texts
  rw [HL.out]
  have HI : Hid (TxAt w1 p' (zs ++ marks 7 0 6)) := hint
  clear hown hint hlt
  go_wp2_with (first | (go_at_call 12; fail))
  refine (HS.out _ _ _ (HF.out.later hb1) HI.out).mono ?_
  rintro e w2 ⟨rfl, hb2⟩
  go_wp2
  go_ret
  exact ⟨rfl, below_next hb1 hb2⟩
end Go.Proofs.Ytadljgaadjajdaa
