/- Numbers as texts: the law's own text, texts, and the copy of a list of ints; of at most a million. -/
import Derived.Test.YtbchbappdpbkiaaFdS2
namespace Go.Proofs.Ytbchbappdpbkiaa
open Go.RowKit Go.Maps
/-- A number's last digit; what is left of a number, digit by digit; the text so far. -/
def txD (m : Int) : Int := if Int.tmod m 10 < 0 then - Int.tmod m 10 else Int.tmod m 10
def txN (n : Int) : Nat → Int
  | 0 => n
  | i + 1 => Int.tdiv (txN n i) 10
def digS (d : Int) : ByteArray := (⟨#[48, 49, 50, 51, 52, 53, 54, 55, 56, 57]⟩ : ByteArray).extract d.toNat (d + 1).toNat
def txS (n : Int) : Nat → ByteArray
  | 0 => if n < 0 then ⟨#[119]⟩ else ⟨#[118]⟩
  | i + 1 => txS n i ++ digS (txD (txN n i))
/-- A number as a text. -/
def tx (n : Int) : ByteArray := txS n 20
theorem txN_bd (n : Int) (h : -9223372036854775808 ≤ n ∧ n ≤ 9223372036854775807) : ∀ i, -9223372036854775808 ≤ txN n i ∧ txN n i ≤ 9223372036854775807
  | 0 => h
  | i + 1 => by
    have h1 := txN_bd n h i
    have h2 := Int.natAbs_tdiv (txN n i) 10
    have h3 : (txN n i).natAbs / (10 : Int).natAbs ≤ (txN n i).natAbs := Nat.div_le_self _ _
    have h4 : txN n (i + 1) = Int.tdiv (txN n i) 10 := rfl
    have h5 : Int.tdiv (txN n i) 10 * 10 + Int.tmod (txN n i) 10 = txN n i := Int.tdiv_mul_add_tmod _ _
    have h6 := Int.natAbs_tmod (txN n i) 10
    have h7 : (txN n i).natAbs % (10 : Int).natAbs < (10 : Int).natAbs := Nat.mod_lt _ (by decide)
    have h8 : (10 : Int).natAbs = 10 := rfl
    rw [h4]
    omega
theorem digS_size (d : Int) : (digS d).size ≤ 10 := by
  unfold digS
  rw [ByteArray.size_extract]
  have : (⟨#[48, 49, 50, 51, 52, 53, 54, 55, 56, 57]⟩ : ByteArray).size = 10 := rfl
  omega
theorem txS_size (n : Int) : ∀ i, (txS n i).size ≤ 1 + 10 * i
  | 0 => by
    unfold txS
    split <;> exact Nat.le_refl _
  | i + 1 => by
    have h1 := txS_size n i
    have h2 := digS_size (txD (txN n i))
    unfold txS
    rw [ByteArray.size_append]
    omega
theorem txD_bd (m : Int) : -9 ≤ Int.tmod m 10 ∧ Int.tmod m 10 ≤ 9 := by
  have h6 := Int.natAbs_tmod m 10
  have h7 : m.natAbs % (10 : Int).natAbs < (10 : Int).natAbs := Nat.mod_lt _ (by decide)
  have h8 : (10 : Int).natAbs = 10 := rfl
  omega
set_option maxRecDepth 20000 in
theorem text_ok (n : Int) (hn : -9223372036854775808 ≤ n ∧ n ≤ 9223372036854775807) (w : World) : Calls Try.prog 41 #[.int .i64 n] w fun e w' => e = .returned (.string (tx n)) ∧ w' = w := by
  have HB : Hid (∀ i, -9223372036854775808 ≤ txN n i ∧ txN n i ≤ 9223372036854775807) := txN_bd n hn
  have HS : Hid (∀ i, (txS n i).size ≤ 1 + 10 * i) := txS_size n
  by_cases h0 : n < 0
  all_goals
    (go_enter Try.func41, Try.ntmps41
     go_wp2
     go_loopw [0, 3, 4] (fun s0 s3 s4 wx => ∃ i : Nat, i ≤ 20 ∧ s4 = .int .i64 i ∧ s0 = .int .i64 (txN n i) ∧ s3 = .string (txS n i) ∧ wx = w) (fun _ _ s4 _ => 20 - (intOf s4).toNat))
  case atStart => exact ⟨0, by omega, rfl, rfl, by unfold txS; rw [if_pos h0], rfl⟩
  case atStart => exact ⟨0, by omega, rfl, rfl, by unfold txS; rw [if_neg (by omega)], rfl⟩
  all_goals
    (obtain ⟨i, hi, rfl, rfl, rfl, hwx⟩ := hrel
     obtain rfl := hwx.symm
     have hb := HB.out i
     have hsz := HS.out i
     have hN : txN n (i + 1) = Int.tdiv (txN n i) 10 := rfl
     have hS : txS n (i + 1) = txS n i ++ digS (txD (txN n i)) := rfl
     have hb2 := HB.out (i + 1)
     rw [hN] at hb2
     have hwr : IntKind.i64.wrap (Int.tdiv (txN n i) 10) = Int.tdiv (txN n i) 10 := by rw [IntKind.wrap_i64]; omega
     have hdb := txD_bd (txN n i)
     have HNN := (show Hid _ from hN)
     have HSS := (show Hid _ from hS)
     by_cases hi2 : i < 20
     · have hg := digS_size (txD (txN n i))
       unfold txD digS at hg HSS
       clear hN hS
       generalize txN n i = m at *
       generalize txS n i = s at *
       have e20 : decide ((i : Int) < 20) = true := decide_eq_true (by omega)
       by_cases hneg : Int.tmod m 10 < 0
       · have e1 : decide (Int.tmod m 10 < 0) = true := decide_eq_true hneg
         rw [if_pos hneg] at hg HSS
         go_wp2
         go_roundw
         case rel => exact ⟨i + 1, by omega, by go_num, by rw [HNN.out], by rw [HSS.out], trivial⟩
         case measure => simp [intOf]; omega
       · have e1 : decide (Int.tmod m 10 < 0) = false := decide_eq_false hneg
         rw [if_neg hneg] at hg HSS
         go_wp2
         go_roundw
         case rel => exact ⟨i + 1, by omega, by go_num, by rw [HNN.out], by rw [HSS.out], trivial⟩
         case measure => simp [intOf]; omega
     · obtain rfl : i = 20 := by omega
       clear hN hS hwr hb hb2 hsz hdb HNN HSS
       go_wp2
       go_ret
       exact ⟨rfl, rfl⟩)
/-- A list of ints that can be read. -/
def IntsAt (w : World) (p : Option Addr) (L : List Int) : Prop := ∀ k x, L[k]? = some x → ∃ b, p = some ⟨b, 0, none⟩ ∧ b < w.heap.size ∧ w.cell? ⟨b, k, none⟩ = some (.int .i64 x)
theorem IntsAt.later {w W : World} {p : Option Addr} {L : List Int} (h : IntsAt w p L) (hb : Below w.heap.size w W) : IntsAt W p L := fun k x hx => by
  obtain ⟨b, h1, h2, h3⟩ := h k x hx
  exact ⟨b, h1, Nat.lt_of_lt_of_le h2 hb.size, (hb.cell (p := ⟨b, k, none⟩) h2).trans h3⟩
def stE (s : ByteArray) : List Value := [.string s]
theorem lenst (x : ByteArray) : (stE x).length = 1 := rfl
theorem onest (x : ByteArray) : ∀ u ∈ stE x, u.oneCell' = true := fun u hu => by simp [stE] at hu; subst hu; rfl
theorem infst : (Try.prog.info? 9).map (fun i => (i.zero, i.size, i.bytes)) = some (some (.string ⟨#[]⟩), 1, 16) := by kernel_rfl
abbrev sP (v : Value) (L : List ByteArray) : Part := olP v 9 1 L.length (L.flatMap stE)
theorem sep_pushS {w W : World} {l : List Part} {v : Value} {L : List ByteArray} (h : Sep w W (sP v L :: l)) (hn : L.length ≤ 10000000) (x : ByteArray) (ty : TypeId) : ∃ v' W', (Builtin.append_ #[82, 82] ty #[v, .slice (some ⟨W.heap.size, 0, none⟩) 1 1]).run Try.prog (W.alloc (.cells #[.string x] 9)) = .ok v' W' ∧ Sep w W' (sP v' (L ++ [x]) :: l) := by
  obtain ⟨i0, hi0, hz0, hz1, hz2⟩ := info_parts infst
  obtain ⟨v', W', h1, h2, h3, h4⟩ := own_pushG lenst onest Try.underlying82 hi0 hz0 hz1 hz2 rfl (by omega) (by omega) h.head (Nat.zero_le _) hn x ty
  exact ⟨v', W', h1, sep_own h h3 h2 h4⟩
set_option maxRecDepth 20000 in
theorem texts_ok (L : List Int) (p : Option Addr) (c : Nat) (w : World) (hl : L.length ≤ 1000000) (h : IntsAt w p L) (hb : ∀ x ∈ L, -9223372036854775808 ≤ x ∧ x ≤ 9223372036854775807) : Calls Try.prog 48 #[.slice p L.length c] w fun e w' => ∃ v', e = .returned v' ∧ Sep w w' [sP v' (L.map tx)] := by
  have HI : Hid (IntsAt w p L) := h
  have HB := (show Hid _ from hb)
  obtain ⟨n, hn⟩ : ∃ n, L.length = n := ⟨_, rfl⟩
  have HN : Hid (L.length = n) := hn
  rw [hn] at hl ⊢
  clear h hb hn
  go_enter Try.func48, Try.ntmps48
  go_wp2
  go_loopw [3, 4] (fun s3 s4 wx => ∃ (k : Nat) (v : Value), k ≤ n ∧ s3 = v ∧ s4 = .int .i64 k ∧ Hid (Sep w wx [sP v ((L.take k).map tx)])) (fun _ s4 _ => n - (intOf s4).toNat)
  case atStart => exact ⟨0, _, by omega, rfl, rfl, sep_nilL (Sep.nil (Below.refl _ _)) 9 1⟩
  case round =>
    obtain ⟨k, v, hk, e3, rfl, HX⟩ := hrel
    obtain rfl := e3.symm
    by_cases hk2 : k < n
    · have hln := HN.out
      have hx : L[k]? = some L[k] := List.getElem?_eq_getElem (by omega)
      have hbd := HB.out L[k] (List.getElem_mem _)
      obtain ⟨b, rfl, _, cc⟩ := (IntsAt.later HI.out HX.out.below) k _ hx
      have htk : L.take (k + 1) = L.take k ++ [L[k]] := List.take_succ_eq_append_getElem (by omega)
      have HTK := (show Hid _ from htk)
      generalize L[k] = x at *
      have ht := fun u => text_ok x hbd u
      obtain ⟨v', W', r1, s1⟩ := sep_pushS HX.out (by simp; omega) (tx x) 82
      have HX2 : Hid (Sep w W' [sP v' ((L.take (k + 1)).map tx)]) := by
        rw [HTK.out, List.map_append]
        exact s1
      clear HX s1 hx htk hln
      go_wp2_with (first | (go_at_call 41; refine (ht _).mono ?_; rintro e U ⟨rfl, q⟩; obtain rfl := q.symm) | (at_builtin; refine wpList_app rfl (.tmp 11) (.tmp 17) rfl rfl rfl r1 ?_))
      go_roundw
      case rel => exact ⟨k + 1, _, by omega, rfl, by go_num, HX2⟩
      case measure => simp [intOf]; omega
    · obtain rfl : k = n := by omega
      have HX2 : Hid (Sep w wr [sP v (L.map tx)]) := by
        have := HX.out
        rwa [List.take_of_length_le (by rw [HN.out]; exact Nat.le_refl _)] at this
      clear HX
      go_wp2
      go_ret
      exact ⟨_, rfl, HX2.out⟩
set_option maxRecDepth 20000 in
theorem copy_ok (L : List Int) (v : Value) (w : World) (hl : L.length ≤ 1000000) (h : w.ownsRow 0 3 1 v L.length (L.flatMap inE)) : Calls Try.prog 38 #[v] w fun e w' => ∃ v', e = .returned v' ∧ Sep w w' [iP v' L] := by
  obtain ⟨i0, hi0, hz0, hz1, hz2⟩ := info_parts infin
  have fin : ∀ v' w', w'.ownsRow w.heap.size 3 1 v' L.length (L.flatMap inE) → Below w.heap.size w w' → Sep w w' [iP v' L] := fun v' w' ho hb => by
    refine (Sep.nil (Below.refl _ _)).add hb (olP_good _ _ _ _ _) (World.ownsRow.mono ho (Nat.zero_le _)) fun k hk => ?_
    exact ho.lt k hk
  rcases own_form h with ⟨rfl, h0⟩ | ⟨b, c, rfl, hb⟩
  · have hL : L = [] := List.eq_nil_of_length_eq_zero h0
    subst hL
    have HFI := (show Hid _ from fin (.slice none 0 0) w (World.ownsRow_nil _ _ _ _) (Below.refl _ _))
    clear h hl h0 hi0 fin
    go_enter Try.func38, Try.ntmps38
    go_wp2
    go_ret
    exact ⟨_, rfl, HFI.out⟩
  · have hnews : ∀ j u, (L.flatMap inE)[j]? = some u → w.cell? ((⟨b, 0, none⟩ : Addr).add j) = some u := fun j u hu => by
      rw [Go.WideShapes.add_plain, Nat.zero_add]
      have hj := (List.getElem?_eq_some_iff.1 hu).1
      rw [fml lenin] at hj
      rw [World.ownsRow.cellAt h j hj]
      exact hu
    have h1 : ∀ u ∈ L.flatMap inE, u.oneCell' = true := fun u hu => by
      obtain ⟨x, _, hx⟩ := List.mem_flatMap.1 hu
      exact onein x u hx
    have hbt : ((0 + L.length) + (0 + L.length) / 4 + 192) * 8 ≤ 281474976710656 := by omega
    obtain ⟨v', w', hrun, hown, hgr, _⟩ := run_append_own_wide (P := Try.prog) (w := w) w.heap.size 65 65 3 i0 _ 1 8 Try.underlying65 hi0 hz0 hz1 hz2 rfl (by omega)
      (.slice none 0 0) 0 [] (World.ownsRow_nil _ _ _ _) ⟨b, 0, none⟩ L.length c (L.flatMap inE) (fml lenin L) hnews h1 (by unfold maxLen; omega) hbt (Nat.le_refl _)
    rw [Nat.zero_add, List.nil_append] at hown
    have HFI := (show Hid _ from fin v' w' hown ((Below.refl _ _).grown hgr (Nat.le_refl _) (fun k hk => by simp [Value.ownBlock] at hk)))
    generalize L.length = N at hrun ⊢
    clear hown hgr hnews h1 hbt h hl fin
    go_enter Try.func38, Try.ntmps38
    go_wp2_with (first | (at_builtin; refine wpList_app rfl (.tmp 4) (.tmp 5) rfl rfl rfl hrun ?_))
    go_ret
    exact ⟨_, rfl, HFI.out⟩
end Go.Proofs.Ytbchbappdpbkiaa
