/- Several texts joined, each with its own remark; no condition. -/
import Derived.Test.YtencclpcebpgmaaP9
import Derived.Test.YtencclpcebpgmaaP8
import Derived.Test.YtencclpcebpgmaaP6
import Derived.Deep.QuietTactic
import Derived.BigQuiet
import Derived.Test.YtencclpcebpgmaaP7
/- The document's cache: one leaves its list, one comes last; lists up to a million. -/
namespace Go.Proofs.Ytencclpcebpgmaa
open Go.RowKit Go.Maps
theorem own_base0 {w : World} {B e sz n : Nat} {v : Value} {xs : List Value} (h : w.ownsRow B e sz v n xs) : w.ownsRow 0 e sz v n xs :=
  ⟨h.1, h.2.imp id fun ⟨g, cap, cur, a, _, r⟩ => ⟨g, cap, cur, a, Nat.zero_le _, r⟩⟩
section
variable {α : Type} {en : α → List Value} {sz e : Nat}
set_option maxRecDepth 4000 in
theorem own_more {st : TypeId} {i : TypeInfo} {z : Value} {bytes : Nat} (hr : ∀ x, (en x).length = sz) (h1 : ∀ x, ∀ u ∈ en x, u.oneCell' = true) (ht : Try.prog.underlying st = some (.slice e)) (hi : Try.prog.info? e = some i) (hz : i.zero = some z) (hsize : i.size = sz) (hby : i.bytes = bytes) (hzs : z.cells.size = sz) (hsz : 0 < sz) (hbb : bytes ≤ 2000)
    {B : Nat} {W : World} {v : Value} {l m : List α} (h : W.ownsRow B e sz v l.length (l.flatMap en)) (hB : B ≤ W.heap.size) {b off c : Nat} (hl : LiesE en sz W (some ⟨b, off, none⟩) m) (hn : l.length + m.length ≤ 1000000) (ty : TypeId) :
    ∃ v' w', (Builtin.append_ #[st, st] ty #[v, .slice (some ⟨b, off, none⟩) m.length c]).run Try.prog W = .ok v' w' ∧ w'.ownsRow B e sz v' (l ++ m).length ((l ++ m).flatMap en) ∧ Fr (fun k => v.ownBlock = some k) W w' := by
  have hbt : ((l.length + m.length) + (l.length + m.length) / 4 + 192) * bytes ≤ 281474976710656 := by
    have : ((l.length + m.length) + (l.length + m.length) / 4 + 192) * bytes ≤ 1250192 * 2000 := Nat.mul_le_mul (by omega) hbb
    omega
  have hc : ∀ j u, (m.flatMap en)[j]? = some u → W.cell? ((⟨b, off, none⟩ : Addr).add j) = some u := fun j u hu => by
    have h0 : 0 < m.length := Nat.pos_of_ne_zero fun q => by
      rw [List.length_eq_zero_iff.1 q] at hu
      simp at hu
    obtain ⟨b', off', hp, _, hc⟩ := hl h0
    injection hp with hp
    injection hp with q1 q2
    subst q1; subst q2
    rw [Go.WideShapes.add_plain]
    exact LiesE.cells hr hsz hc j u hu
  obtain ⟨v', w', hrun, h2, hg, _⟩ := run_append_own_wide (P := Try.prog) W B st ty e i z sz bytes ht hi hz hsize hby hzs hsz v l.length (l.flatMap en) h ⟨b, off, none⟩ m.length c (m.flatMap en) (fml hr m) hc (fun u hu => by
      obtain ⟨x, _, hx⟩ := List.mem_flatMap.1 hu
      exact h1 x u hx) (by unfold maxLen; omega) hbt hB
  refine ⟨v', w', hrun, ?_, Fr.ofGrown hg⟩
  rw [List.length_append, List.flatMap_append]
  exact h2
theorem lies_suffix {w : World} {b off : Nat} {l r : List α} (h : LiesE en sz w (some ⟨b, off, none⟩) (l ++ r)) : LiesE en sz w (some ⟨b, off + l.length * sz, none⟩) r := fun h0 => by
  obtain ⟨b', off', hp, hlt, hc⟩ := h (by rw [List.length_append]; omega)
  injection hp with hp
  injection hp with q1 q2
  subst q1; subst q2
  refine ⟨b, _, rfl, hlt, fun k x hx j v hv => ?_⟩
  have := hc (l.length + k) x (by rw [List.getElem?_append_right (by omega), Nat.add_sub_cancel_left]; exact hx) j v hv
  rw [Nat.add_mul, ← Nat.add_assoc] at this
  exact this
theorem LiesE.later {w w' : World} {p : Option Addr} {l : List α} (h : LiesE en sz w p l) (hb : Below w.heap.size w w') : LiesE en sz w' p l := fun h0 => by
  obtain ⟨b, off, hp, hlt, hc⟩ := h h0
  refine ⟨b, off, hp, Nat.lt_of_lt_of_le hlt hb.size, fun k x hx j v hv => ?_⟩
  rw [← hc k x hx j v hv]
  exact hb.cell hlt
end
theorem info103 : (Try.prog.info? 103).map (fun i => (i.zero, i.size, i.bytes)) = some (some (.agg (enH ⟨0, false, nought⟩).toArray), 1026, 1040) := by kernel_rfl
theorem enH_size (h : Hld) : (enH h).toArray.size = 1026 := by rw [List.size_toArray, lenH]
variable {w w' : World} {g d : Nat} {v : Value} {s : CSt}
/-- The list without its i-th. -/
theorem RCk.out (h : RCk w g d v s) {i b c : Nat} (hv : v = .slice (some ⟨b, 0, none⟩) s.row.length c) (hi : i < s.row.length) (hn : s.row.length ≤ 1000000) (ty : TypeId) :
    ∃ v1 W1, (Builtin.append_ #[99, 99] ty #[.slice none 0 0, .slice (some ⟨b, 0, none⟩) i c]).run Try.prog w = .ok v1 W1 ∧ RCk W1 g d v s ∧ ∀ ty' c' off, (off = (i + 1) * 1026 ∨ s.row.length = i + 1) → ∃ v2 W2, (Builtin.append_ #[99, 99] ty' #[v1, .slice (some ⟨b, off, none⟩) (s.row.length - (i + 1)) c']).run Try.prog W1 = .ok v2 W2 ∧ RCk W2 g d v s ∧
      RCk (W2.setCell ⟨g, 2, none⟩ v2) g d v2 { s with row := s.row.eraseIdx i } ∧ Fr (fun k => k = g) w (W2.setCell ⟨g, 2, none⟩ v2) ∧ ∀ k, v2.ownBlock = some k → w.heap.size ≤ k := by
  obtain ⟨i0, hi0, hz0, hz1, hz2⟩ := info_parts info103
  subst hv
  have hL := own_lies lenH h.own
  have e1 : (s.row.take i).length = i := by rw [List.length_take]; omega
  have e2 : s.row = s.row.take (i + 1) ++ s.row.drop (i + 1) := (List.take_append_drop _ _).symm
  have hLa : LiesE enH 1026 w (some ⟨b, 0, none⟩) (s.row.take i) := lies_prefix (r := s.row.drop i) (by rw [List.take_append_drop]; exact hL)
  have hLb : LiesE enH 1026 w (some ⟨b, (i + 1) * 1026, none⟩) (s.row.drop (i + 1)) := by
    have hL2 := hL
    rw [e2] at hL2
    have := lies_suffix hL2
    rwa [List.length_take, Nat.min_eq_left (by omega), Nat.zero_add] at this
  obtain ⟨v1, W1, hr1, ho1, hb1⟩ := append_copy lenH oneH Try.underlying99 hi0 hz0 hz1 hz2 (enH_size _) (by omega) (by omega) (c := c) hLa (by omega) ty
  rw [e1] at hr1
  refine ⟨v1, W1, hr1, h.later hb1, fun ty' c' off hoff => ?_⟩
  have hLc : LiesE enH 1026 w (some ⟨b, off, none⟩) (s.row.drop (i + 1)) := by
    rcases hoff with rfl | q
    · exact hLb
    · intro h0
      rw [List.length_drop] at h0
      omega
  obtain ⟨v2, W2, hr2, ho2, hf2⟩ := own_more lenH oneH Try.underlying99 hi0 hz0 hz1 hz2 (enH_size _) (by omega) (by omega) ho1 hb1.size (hLc.later hb1) (c := c') (by rw [List.length_take, List.length_drop]; omega) ty'
  rw [List.length_drop] at hr2
  have hb2 : Below w.heap.size w W2 := by
    have : Below w.heap.size W1 W2 := hf2.below (fun j q => (ho1.lt j q).1) hb1.size
    exact hb1.trans this
  have h2 := h.later hb2
  have hFr : Fr (fun k => k = g) w (W2.setCell ⟨g, 2, none⟩ v2) := (Fr.ofBelow (T := fun k => k = g) hb2).trans (Fr.setCell W2 g 2 v2) fun _ _ q => q
  refine ⟨v2, W2, hr2, h2, ⟨?_, ?_⟩, hFr, fun k hk => (ho2.lt k hk).1⟩
  · rw [heap_setCell_same W2 g 2 _ 101 v2 h2.row]
    rfl
  · have ho3 : W2.ownsRow 0 103 1026 v2 (s.row.eraseIdx i).length ((s.row.eraseIdx i).flatMap enH) := by
      rw [List.eraseIdx_eq_take_drop_succ]
      exact own_base0 ho2
    exact ownsRow_kept0 ho3 fun k hk => Below.heap_setCell W2 _ v2 k (fun q => own_ne ho3 h2.row (by decide) (by have q' : k = g := q; rw [← q']; exact hk))
set_option maxRecDepth 20000 in
set_option maxHeartbeats 1000000 in
theorem leave6 (h : RCk w g d v s) {i : Nat} (hi : i < s.row.length) (hn : s.row.length ≤ 1000000) : Calls Try.prog 66 #[.pointer (some ⟨g, 0, none⟩), .int .i64 i] w fun e w' => e = .returned (.tuple #[]) ∧ ∃ v', RCk w' g d v' { s with row := s.row.eraseIdx i } ∧ Fr (fun k => k = g) w w' ∧ ∀ k, v'.ownBlock = some k → w.heap.size ≤ k := by
  obtain ⟨x, hx⟩ : ∃ x, s.row[i]? = some x := ⟨_, List.getElem?_eq_getElem hi⟩
  obtain ⟨b, c, hv, _⟩ := h.at hx
  have c2 : w.cell? ⟨g, 2, none⟩ = some v := h.cell 2
  have hcap : s.row.length ≤ c := by
    have := h.own
    rw [hv] at this
    exact (own_heap this).2.1
  have HO : Hid (∀ ty, _) := fun ty => h.out hv hi hn ty
  subst hv
  clear h hx
  obtain ⟨v1, W1, hr1, hR1, ho⟩ := HO.out 99
  have HO2 := hidd ho
  have d2 : W1.cell? ⟨g, 2, none⟩ = some (.slice (some ⟨b, 0, none⟩) s.row.length c) := hR1.cell 2
  have hi3 : (i : Int) ≤ s.row.length := by omega
  have hi4 : (i : Int) ≤ c := by omega
  clear HO ho hR1
  by_cases hce : c = i + 1
  · have hn2 : s.row.length = i + 1 := by omega
    subst hce
    obtain ⟨v2, W2, hr2, hR2, hC, hF, hN⟩ := HO2.out 99 0 0 (.inr hn2)
    rw [hn2, Nat.sub_self] at hr2
    obtain ⟨p2, q2, rfl⟩ := hC.shape
    generalize hm2 : ({ s with row := s.row.eraseIdx i } : CSt).row.length = m2 at *
    have e2 : W2.cell? ⟨g, 2, none⟩ = some (.slice (some ⟨b, 0, none⟩) s.row.length _) := hR2.cell 2
    have f2 := hR2.free 2
    have HC := hidd hC
    have HF := hidd hF
    have HN := hidd hN
    clear HO2 hR2 hC hF hN
    go_enter Try.func66, Try.ntmps66
    go_wp2_with (first | (at_builtin; refine wpList_exec rfl (exec_pushY (s := .tmp 5) (y := .tmp 11) rfl rfl rfl hr1) ?_) | (at_builtin; refine wpList_exec rfl (exec_pushY (s := .tmp 14) (y := .tmp 21) rfl rfl rfl hr2) ?_))
    exact ⟨rfl, _, results_none rfl _ _ _, rfl, _, HC.out, HF.out, HN.out⟩
  · have hz : ¬ (c - (i + 1) = 0) := by omega
    obtain ⟨v2, W2, hr2, hR2, hC, hF, hN⟩ := HO2.out 99 (c - (i + 1)) ((i + 1) * 1026) (.inl rfl)
    obtain ⟨p2, q2, rfl⟩ := hC.shape
    generalize hm2 : ({ s with row := s.row.eraseIdx i } : CSt).row.length = m2 at *
    have e2 : W2.cell? ⟨g, 2, none⟩ = some (.slice (some ⟨b, 0, none⟩) s.row.length _) := hR2.cell 2
    have f2 := hR2.free 2
    have HC := hidd hC
    have HF := hidd hF
    have HN := hidd hN
    clear HO2 hR2 hC hF hN
    go_enter Try.func66, Try.ntmps66
    go_wp2_with (first | (at_builtin; refine wpList_exec rfl (exec_pushY (s := .tmp 5) (y := .tmp 11) rfl rfl rfl hr1) ?_) | (at_builtin; refine wpList_exec rfl (exec_pushY (s := .tmp 14) (y := .tmp 21) rfl rfl rfl hr2) ?_))
    exact ⟨rfl, _, results_none rfl _ _ _, rfl, _, HC.out, HF.out, HN.out⟩
end Go.Proofs.Ytencclpcebpgmaa
/- Lists that were told, and the row that has them, as a part of memory; one list more; no condition but a bound of the book's length. -/
namespace Go.Proofs.Ytencclpcebpgmaa
open Go.RowKit Go.Maps
structure Tl (α : Type) where
  p : Option Addr
  c : Nat
  l : List α
def Tl.v {α : Type} (x : Tl α) : Value := .slice x.p x.l.length x.c
def enS {α : Type} (x : Tl α) : List Value := [x.v]
theorem enS_len {α : Type} (x : Tl α) : (enS x).length = 1 := rfl
theorem enS_one {α : Type} (x : Tl α) : ∀ u ∈ enS x, u.oneCell' = true := fun u hu => by
  simp only [enS, List.mem_singleton] at hu
  subst hu
  rfl
/-- Lists that were told, and the row that has them. -/
structure Bk {α : Type} (en : α → List Value) (e sl sz : Nat) (v : Value) (T : List (Tl α)) (W : World) : Prop where
  row : W.ownsRow 0 sl 1 v T.length (T.flatMap enS)
  own : ∀ x ∈ T, W.ownsRow 0 e sz x.v x.l.length (x.l.flatMap en)
  two : T.Pairwise fun x y => ∀ b, x.v.ownBlock = some b → y.v.ownBlock ≠ some b
def bkO {α : Type} (v : Value) (T : List (Tl α)) (k : Nat) : Prop := v.ownBlock = some k ∨ ∃ x ∈ T, x.v.ownBlock = some k
def bkP {α : Type} (en : α → List Value) (e sl sz : Nat) (v : Value) (T : List (Tl α)) : Part := ⟨bkO v T, Bk en e sl sz v T⟩
section
variable {α : Type} {en : α → List Value} {e sl sz : Nat} {v : Value} {T : List (Tl α)}
theorem bkP_good : (bkP en e sl sz v T).Good := fun _ _ h _ hb =>
  ⟨ownsRow_kept0 h.row fun k hk => hb k (.inl hk), fun x hx => ownsRow_kept0 (h.own x hx) fun k hk => hb k (.inr ⟨x, hx, hk⟩), h.two⟩
end
/-- Two parts as one. -/
def Part.and (p q : Part) : Part := ⟨fun k => p.own k ∨ q.own k, fun W => p.say W ∧ q.say W⟩
theorem Sep.join {w W : World} {p q : Part} {l : List Part} (h : Sep w W (p :: q :: l)) : Sep w W (p.and q :: l) := by
  obtain ⟨ha, hl⟩ := List.pairwise_cons.1 h.apart
  obtain ⟨hb, hl⟩ := List.pairwise_cons.1 hl
  have mp : p ∈ p :: q :: l := by simp
  have mq : q ∈ p :: q :: l := by simp
  refine ⟨fun r hr => ?_, fun r hr => ?_, fun r hr k hk => ?_, List.pairwise_cons.2 ⟨fun r hr k hk => ?_, hl⟩, h.below⟩
  · rcases List.mem_cons.1 hr with rfl | hr
    · exact fun W W' hs hlt hk => ⟨h.good p mp W W' hs.1 (fun k q => hlt k (.inl q)) fun k q => hk k (.inl q), h.good q mq W W' hs.2 (fun k q => hlt k (.inr q)) fun k q => hk k (.inr q)⟩
    · exact h.good r (by simp [hr])
  · rcases List.mem_cons.1 hr with rfl | hr
    · exact ⟨h.say p mp, h.say q mq⟩
    · exact h.say r (by simp [hr])
  · rcases List.mem_cons.1 hr with rfl | hr
    · rcases hk with hk | hk
      · exact h.lt p mp k hk
      · exact h.lt q mq k hk
    · exact h.lt r (by simp [hr]) k hk
  · rcases hk with hk | hk
    · exact ha r (by simp [hr]) k hk
    · exact hb r hr k hk
/-- A list. -/
def lsP {α : Type} (en : α → List Value) (e sz : Nat) (x : Tl α) : Part := ⟨fun k => x.v.ownBlock = some k, fun W => W.ownsRow 0 e sz x.v x.l.length (x.l.flatMap en)⟩
section
variable {α : Type} {en : α → List Value} {e sl sz : Nat} {v : Value} {T : List (Tl α)} {x : Tl α}
variable {w W W1 : World} {l : List Part}
theorem sep_list (h : Sep w W l) (hb : Below W.heap.size W W1) (ho : W1.ownsRow W.heap.size e sz x.v x.l.length (x.l.flatMap en)) : Sep w W1 (lsP en e sz x :: l) :=
  h.add (p := lsP en e sz x) hb (fun _ _ h _ hk => ownsRow_kept0 h hk) (own_base0 ho) fun k hk => ho.lt k hk
/-- The list is put into the book. -/
theorem sep_tell {st : TypeId} {ti : TypeInfo} (ht : Try.prog.underlying st = some (.slice sl)) (hi : Try.prog.info? sl = some ti) (hz : ti.zero = some (.slice none 0 0)) (hsize : ti.size = 1) (hby : ti.bytes = 24) (hne : e ≠ sl)
    (h : Sep w W (lsP en e sz x :: bkP en e sl sz v T :: l)) (hn : T.length ≤ 8000000) (ty : TypeId) :
    ∃ p c W', (Builtin.append_ #[st, st] ty #[v, .slice (some ⟨W.heap.size, 0, none⟩) 1 1]).run Try.prog (W.alloc (.cells #[x.v] sl)) = .ok (.slice p (T.length + 1) c) W' ∧ Sep w W' (bkP en e sl sz (.slice p (T.length + 1) c) (T ++ [x]) :: l) := by
  have hx : W.ownsRow 0 e sz x.v x.l.length (x.l.flatMap en) := h.head
  have h1 : Bk en e sl sz v T W := h.drop.head
  have hap : ∀ k, x.v.ownBlock = some k → ¬ bkO v T k := (List.pairwise_cons.1 h.apart).1 (bkP en e sl sz v T) (by simp)
  obtain ⟨v', W', hr, ho', _, hF, hor⟩ := own_pushL enS_len enS_one ht hi hz hsize hby (by rfl) (by omega) (by omega) h1.row (Nat.zero_le _) (by omega) x ty
  have hlen : (T ++ [x]).length = T.length + 1 := by simp
  obtain ⟨p, c, rfl, _⟩ := own_slice ho'
  rw [hlen] at hr ho' hor
  refine ⟨p, c, W', hr, ?_⟩
  refine h.join.turn (T := fun k => v.ownBlock = some k) hF (fun k _ q => .inr (.inl q)) bkP_good ⟨by rw [hlen]; exact ho', fun y hy => ?_, ?_⟩ fun k hk => ?_
  · rcases List.mem_append.1 hy with hy | hy
    · exact own_frame (h1.own y hy) hF fun i q r => rows_apart (Ne.symm hne) (h1.own y hy) q h1.row r
    · obtain rfl : y = x := by simpa using hy
      exact own_frame hx hF fun i q r => hap i q (.inl r)
  · rw [List.pairwise_append]
    refine ⟨h1.two, List.pairwise_singleton _ _, fun y hy z hz b q r => ?_⟩
    obtain rfl : z = x := by simpa using hz
    exact hap b r (.inr ⟨y, hy, q⟩)
  · rcases hk with q | ⟨y, hy, q⟩
    · exact ⟨(hor k q).elim (fun r => .inl (.inr (.inl r))) .inr, (ho'.lt k q).2⟩
    · rcases List.mem_append.1 hy with hy | hy
      · exact ⟨.inl (.inr (.inr ⟨y, hy, q⟩)), Nat.lt_of_lt_of_le ((h1.own y hy).lt k q).2 hF.size⟩
      · obtain rfl : y = x := by simpa using hy
        exact ⟨.inl (.inl q), Nat.lt_of_lt_of_le (hx.lt k q).2 hF.size⟩
end
section
variable {α : Type} {en : α → List Value} {e sl sz : Nat} {v : Value} {T : List (Tl α)} {W : World}
theorem bk_row {n : Nat} {x : Tl α} (h : Bk en e sl sz v T W) (hx : T[n]? = some x) : ∃ gl c, v = .slice (some ⟨gl, 0, none⟩) T.length c ∧ gl < W.heap.size ∧ W.cell? ⟨gl, n, none⟩ = some x.v := by
  have hn := (List.getElem?_eq_some_iff.1 hx).1
  rcases own_form h.row with ⟨_, q⟩ | ⟨gl, c, rfl, hlt⟩
  · omega
  · refine ⟨gl, c, rfl, hlt, ?_⟩
    have := own_get enS_len h.row hx 0 _ rfl
    rwa [Nat.mul_one, Nat.add_zero] at this
theorem bk_lsts (hne : e ≠ sl) (h : Bk en e sl sz v T W) (h0 : 0 < T.length) (he : ∀ x ∈ T, x.l.length ≤ 10000000) : ∃ (gl c : Nat) (ps : Nat → Option Addr) (ns cs : Nat → Nat) (fs : Nat → List α), v = .slice (some ⟨gl, 0, none⟩) T.length c ∧
    (∀ k, k < T.length → (fs k).length = ns k ∧ ns k ≤ 10000000) ∧ Apt T.length gl (fun k => .slice (ps k) (ns k) (cs k)) ∧ Lsts en e sz T.length gl (fun k => .slice (ps k) (ns k) (cs k)) W fs W ∧ (∀ i, TV T.length (fun k => .slice (ps k) (ns k) (cs k)) i → bkO v T i) ∧ ∀ k x, T[k]? = some x → fs k = x.l := by
  obtain ⟨gl, c, rfl, _, _⟩ := bk_row h (List.getElem?_eq_getElem h0)
  let f : Nat → Tl α := fun k => T.getD k ⟨none, 0, []⟩
  have hf : ∀ k, k < T.length → T[k]? = some (f k) ∧ f k ∈ T := fun k hk => by
    have e : f k = T[k] := by show T.getD k _ = _; rw [List.getD_eq_getElem?_getD, List.getElem?_eq_getElem hk]; rfl
    rw [e]
    exact ⟨List.getElem?_eq_getElem hk, List.getElem_mem hk⟩
  refine ⟨gl, c, fun k => (f k).p, fun k => (f k).l.length, fun k => (f k).c, fun k => (f k).l, rfl, fun k hk => ⟨rfl, he _ (hf k hk).2⟩, ⟨fun k hk q => ?_, fun j k hj hk hjk b q r => ?_⟩, ⟨Fr.refl _ _, fun k hk => ?_, fun k hk => h.own _ (hf k hk).2⟩, fun i ⟨k, hk, q⟩ => .inr ⟨f k, (hf k hk).2, q⟩, fun k x hx => by
    have hk := (List.getElem?_eq_some_iff.1 hx).1
    have e := (hf k hk).1
    rw [hx] at e
    injection e with e
    show (f k).l = x.l
    rw [← e]⟩
  · exact rows_apart (Ne.symm hne) (h.own _ (hf k hk).2) q h.row rfl
  · have hp := List.pairwise_iff_getElem.1 h.two
    have ej := (List.getElem?_eq_some_iff.1 (hf j hj).1).2
    have ek := (List.getElem?_eq_some_iff.1 (hf k hk).1).2
    by_cases hlt : j < k
    · exact hp j k hj hk hlt b (by rw [ej]; exact q) (by rw [ek]; exact r)
    · exact hp k j hk hj (by omega) b (by rw [ek]; exact r) (by rw [ej]; exact q)
  · obtain ⟨gl', c', e1, _, e2⟩ := bk_row h (hf k hk).1
    injection e1 with e1
    injection e1 with e1
    injection e1 with e1
    subst e1
    exact e2
end
set_option maxRecDepth 20000 in
theorem still_none (c d : Nat) (p q : Option Addr) (w : World) : Calls Try.prog 18 #[.slice p 0 c, .slice q 0 d] w fun e w' => e = .returned (.bool true) ∧ w' = w := by
  go_enter Try.func18, Try.ntmps18
  go_wp2
  go_loopw [5] (fun s5 wx => s5 = .int .i64 0 ∧ w = wx) (fun _ _ => 0)
  case atStart => exact ⟨rfl, rfl⟩
  case round =>
    obtain ⟨rfl, rfl⟩ := hrel
    go_wp2
    go_loopw [7] (fun s7 wx => s7 = .int .i64 0 ∧ w = wx) (fun _ _ => 0)
    case atStart => exact ⟨rfl, rfl⟩
    case round =>
      obtain ⟨rfl, rfl⟩ := hrel
      go_wp2
      go_loopw [9, 10] (fun s9 s10 wx => s9 = .slice none 0 0 ∧ s10 = .int .i64 0 ∧ w = wx) (fun _ _ _ => 0)
      case atStart => exact ⟨rfl, rfl, rfl⟩
      case round =>
        obtain ⟨rfl, rfl, rfl⟩ := hrel
        go_wp2
        go_loopw [13] (fun s13 wx => s13 = .int .i64 0 ∧ w = wx) (fun _ _ => 0)
        case atStart => exact ⟨rfl, rfl⟩
        case round =>
          obtain ⟨rfl, rfl⟩ := hrel
          go_wp2
          go_ret
          exact ⟨rfl, rfl⟩
/-- The lists that were told are looked at. -/
theorem sep_still {w W : World} {l : List Part} {v v2 : Value} {T T2 : List (Tl Int)} (h : Sep w W (bkP enW 3 54 1 v T :: bkP enW 3 54 1 v2 T2 :: l)) (hT : T.map (·.l) = T2.map (·.l)) (hn : T.length ≤ 8000000) (he : ∀ x ∈ T, x.l.length ≤ 10000000) :
    Calls Try.prog 18 #[v, v2] W fun e W' => e = .returned (.bool true) ∧ Below w.heap.size w W' := by
  have hB : Bk enW 3 54 1 v T W := h.head
  have hB2 : Bk enW 3 54 1 v2 T2 W := h.drop.head
  have hl2 : T2.length = T.length := by have := congrArg List.length hT; simpa using this.symm
  by_cases h0 : 0 < T.length
  · obtain ⟨gl, c, ps, ns, cs, fs, rfl, h1, h2, h3, h4, h5⟩ := bk_lsts (by decide) hB h0 he
    obtain ⟨gw, c2, hv2, _, _⟩ := bk_row hB2 (List.getElem?_eq_getElem (show 0 < T2.length by omega))
    have key : ∀ k, ∃ x : Tl Int, k < T.length → T2[k]? = some x ∧ fs k = x.l := fun k => by
      by_cases hk : k < T.length
      · have e2 : T2[k]? = some T2[k] := List.getElem?_eq_getElem (by omega)
        have e1 : T[k]? = some T[k] := List.getElem?_eq_getElem hk
        refine ⟨T2[k], fun _ => ⟨e2, (h5 k _ e1).trans ?_⟩⟩
        have := congrArg (·[k]?) hT
        simp only [List.getElem?_map, e1, e2, Option.map_some] at this
        injection this
      · exact ⟨⟨none, 0, []⟩, fun q => absurd q hk⟩
    obtain ⟨f2, hf2⟩ := Classical.skolem.1 key
    have hw : ∀ k, k < T.length → W.cell? ⟨gw, k, none⟩ = some (.slice (f2 k).p (ns k) (f2 k).c) ∧ IntsAt W (f2 k).p (fs k) := fun k hk => by
      obtain ⟨e1, e2⟩ := hf2 k hk
      obtain ⟨gw', c2', q, _, hc⟩ := bk_row hB2 e1
      rw [hv2] at q
      injection q with q1
      injection q1 with q1
      injection q1 with q1
      subst q1
      have hlen : (f2 k).l.length = ns k := by rw [← e2]; exact (h1 k hk).1
      refine ⟨by rw [hc]; show some (Value.slice (f2 k).p (f2 k).l.length (f2 k).c) = _; rw [hlen], ?_⟩
      have ho := hB2.own _ (List.mem_of_getElem? e1)
      rw [flat_int] at ho
      obtain ⟨p', c', q, h6, _⟩ := ints_of_row ho
      injection q with q1 q2 q3
      rw [e2, show (f2 k).p = p' from q1]
      exact h6
    rw [hv2, hl2]
    refine (still_any T.length gl gw ps (fun k => (f2 k).p) ns cs (fun k => (f2 k).c) W fs h0 (by omega) c c2 h1 h2 h3 hw).mono ?_
    rintro e W' ⟨he, hF⟩
    exact ⟨he, h.below.trans (hF.below (fun i hi => (h.headLt (k := i) (h4 i hi)).1) h.below.size)⟩
  · obtain ⟨p, c, hv, _⟩ := own_slice hB.row
    obtain ⟨p2, c2, hv2, _⟩ := own_slice hB2.row
    rw [show T.length = 0 by omega] at hv
    rw [show T2.length = 0 by omega] at hv2
    rw [hv, hv2]
    refine (still_none c c2 p p2 W).mono ?_
    rintro e W' ⟨he, rfl⟩
    exact ⟨he, h.below⟩
end Go.Proofs.Ytencclpcebpgmaa
/- The document's cache: one comes last in its list; lists up to a million. -/
namespace Go.Proofs.Ytencclpcebpgmaa
open Go.RowKit Go.Maps
theorem sizeOf103 (u : World) : (sizeOf 103).run Try.prog u = .ok 1026 u := by
  obtain ⟨i0, hi0, hz0, hz1, hz2⟩ := info_parts info103
  simp [sizeOf, typeInfo, hi0, hz1]
theorem zero103 (u : World) : (zeroValue 103).run Try.prog u = .ok (.agg (enH ⟨0, false, nought⟩).toArray) u := by
  obtain ⟨i0, hi0, hz0, hz1, hz2⟩ := info_parts info103
  simp [zeroValue, typeInfo, hi0, hz0]
theorem size103 : (Try.prog.info? 103).map (·.size) = some 1026 := by
  obtain ⟨i0, hi0, hz0, hz1, hz2⟩ := info_parts info103
  rw [hi0]; simp [hz1]
theorem build99 (x : Hld) (u : World) : (Instr.buildSlice 99 1 #[(0, .agg (enH x).toArray)]).run Try.prog u = .ok (.slice (some ⟨u.heap.size, 0, none⟩) 1 1) (u.alloc (.cells (enH x).toArray 103)) :=
  build1 99 103 1026 _ _ Try.underlying99 sizeOf103 (by omega) zero103 (enH_size x) u
def RngH (w : World) (g off : Nat) (x : Hld) : Prop := ∀ j v, (enH x)[j]? = some v → w.cell? ⟨g, off + j, none⟩ = some v
theorem RngH.of {w : World} {g t : Nat} {x : Hld} (h : w.heap[g]? = some (.cells (enH x).toArray t)) : RngH w g 0 x := fun j v hv => by
  rw [cell_of_row w g _ _ t _ h, Nat.zero_add, List.getElem?_toArray]
  exact hv
theorem loadH {w : World} {g off : Nat} {x : Hld} (h : RngH w g off x) : (Instr.loadAt 103 (.pointer (some ⟨g, off, none⟩))).run Try.prog w = .ok (.agg (enH x).toArray) w :=
  run_loadAt_mid (P := Try.prog) w g off 103 (enH x) _ h Try.underlying103 rfl (by rw [lenH]; exact size103)
theorem wpStill_loadH {ops : Array Oper} {Q : Act → Prop} {a : Act} {o : Oper} {rest : List Oper} {w : World} (hgd : o.guard = none) (x : Operand) (ho : o.op = .load 103 x)
    (g off : Nat) (hx : a.eval x = .pointer (some ⟨g, off, none⟩)) (c : Hld) (hg : RngH w g off c)
    (h : wpStill Try.prog ops w Q rest (a.put o.dst (.agg (enH c).toArray))) : wpStill Try.prog ops w Q (o :: rest) a := by
  unfold wpStill
  rw [if_pos (by simp [Region.wanted, hgd])]
  unfold Oper.still execOp
  simp only [ho, hx, loadH hg, Sem.run_bind, Result.andThen_ok, Sem.run_pure, Oper.stillUpon]
  exact ⟨trivial, h⟩
theorem wpList_loadH {ops : Array Oper} {rest : List Oper} {o : Oper} {a : Act} {w : World} {Q : Exit → Act → World → Prop} (hgd : o.guard = none) (x : Operand) (ho : o.op = .load 103 x)
    (g off : Nat) (hx : a.eval x = .pointer (some ⟨g, off, none⟩)) (c : Hld) (hg : RngH w g off c)
    (h : wpList Try.prog ops Q rest (a.put o.dst (.agg (enH c).toArray)) w) : wpList Try.prog ops Q (o :: rest) a w :=
  wpList_plain hgd fun _ hK => by
    unfold Oper.wp execOp
    simp only [ho, hx, loadH hg, Sem.run_bind, Result.andThen_ok, Sem.run_pure]
    exact hK _ _ h
theorem idxR_gone (r : List Hld) (k : Int) : (idxR r k = -1 ∧ atR r k = none ∧ goneR r k = r) ∨ ∃ i : Nat, idxR r k = i ∧ i < r.length ∧ goneR r k = r.eraseIdx i ∧ r[i]? = atR r k ∧ (atR r k).isSome = true := by
  unfold idxR goneR atR
  induction r with
  | nil => left; simp
  | cons a t ih =>
    by_cases h : a.pos = k
    · right
      exact ⟨0, by simp [List.findIdx_cons, h], by simp, by simp [h], by simp [h], by simp [h]⟩
    · have hb : (a.pos == k) = false := by simp [h]
      rcases ih with ⟨h1, h2, h3⟩ | ⟨i, h1, h2, h3, h4, h5⟩
      · left
        refine ⟨?_, by simp [h, h2], by rw [List.eraseP_cons_of_neg (by simp [h]), h3]⟩
        rw [List.findIdx_cons, hb]
        split at h1
        · omega
        · simp only [cond_false, List.length_cons]
          rw [if_neg (by omega)]
      · right
        refine ⟨i + 1, ?_, by rw [List.length_cons]; omega, by rw [List.eraseP_cons_of_neg (by simp [h]), h3, List.eraseIdx_cons_succ], by rw [List.getElem?_cons_succ, h4, List.find?_cons, hb], by rw [List.find?_cons, hb]; exact h5⟩
        rw [List.findIdx_cons, hb]
        split at h1
        · simp only [cond_false, List.length_cons]
          rw [if_pos (by omega)]
          omega
        · omega
variable {w w' : World} {g d : Nat} {v : Value} {s : CSt}
/-- One more at its end. -/
theorem RCk.push (h : RCk w g d v s) (hn : s.row.length ≤ 1000000) (x : Hld) (ty : TypeId) :
    ∃ p c w', (Builtin.append_ #[99, 99] ty #[v, .slice (some ⟨w.heap.size, 0, none⟩) 1 1]).run Try.prog (w.alloc (.cells (enH x).toArray 103)) = .ok (.slice p (s.row.length + 1) c) w' ∧ RCk (w'.setCell ⟨g, 2, none⟩ (.slice p (s.row.length + 1) c)) g d (.slice p (s.row.length + 1) c) { s with row := s.row ++ [x] } ∧
      Fr (rcHas g v) w (w'.setCell ⟨g, 2, none⟩ (.slice p (s.row.length + 1) c)) ∧ (∀ k, (Value.slice p (s.row.length + 1) c).ownBlock = some k → v.ownBlock = some k ∨ w.heap.size ≤ k) ∧ w'.cell? ⟨g, 2, none⟩ = some v ∧ w'.frozen? ⟨g, 2, none⟩ = false ∧ Fr (fun k => v.ownBlock = some k) w w' := by
  obtain ⟨i0, hi0, hz0, hz1, hz2⟩ := info_parts info103
  obtain ⟨v', w', hrun, ho, _, hF, hk⟩ := own_pushL lenH oneH Try.underlying99 hi0 hz0 hz1 hz2 (enH_size _) (by omega) (by omega) h.own (Nat.zero_le _) (by omega) x ty
  have hg : w'.heap[g]? = some (.cells #[ptr d, .int .i64 s.size, v] 101) := (hF.block g (h.lt (.inl rfl)) (own_ne h.own h.row (by decide))).trans h.row
  obtain ⟨p, c, rfl, _⟩ := own_slice ho
  have el : (s.row ++ [x]).length = s.row.length + 1 := by simp
  rw [el] at hrun hk ho
  refine ⟨p, c, w', hrun, ⟨?_, ?_⟩, ?_, hk, Joins.cell_of_block hg 2, Joins.unfrozen_of_block hg 2, hF⟩
  · rw [heap_setCell_same w' g 2 _ 101 _ hg]
    rfl
  · show World.ownsRow _ 0 103 1026 _ (s.row ++ [x]).length _
    rw [el]
    exact ownsRow_kept0 ho fun k hk => Below.heap_setCell w' _ _ k (fun q => own_ne ho hg (by decide) (by have q' : k = g := q; rw [← q']; exact hk))
  · exact (hF.mono fun k _ q => (.inr q : rcHas g v k)).trans ((Fr.setCell w' g 2 _).mono fun k _ (q : k = g) => (.inl q : rcHas g v k)) fun _ _ q => q
set_option maxRecDepth 20000 in
set_option maxHeartbeats 1000000 in
theorem last6 (h : RCk w g d v s) (hn : s.row.length ≤ 1000000) (x : Hld) : Calls Try.prog 61 #[.pointer (some ⟨g, 0, none⟩), .agg (enH x).toArray] w fun e w' => e = .returned (.tuple #[]) ∧ ∃ v', RCk w' g d v' { s with row := goneR s.row x.pos ++ [x] } ∧ Fr (rcHas g v) w w' ∧ ∀ k, v'.ownBlock = some k → v.ownBlock = some k ∨ w.heap.size ≤ k := by
  have hb0 := below_new w (.cells (enH x).toArray 103)
  have h1 := h.later hb0
  have hB := RngH.of (heap_alloc_new w (.cells (enH x).toArray 103))
  have hpos := hB 0 _ (enH_pos x)
  rw [Nat.add_zero] at hpos
  have HFi := hidd (find6 h1 x.pos hn)
  have hsz : w.heap.size < (w.alloc (.cells (enH x).toArray 103)).heap.size := by simp
  have hgw : g < w.heap.size := h.lt (.inl rfl)
  have hvw : v.ownBlock ≠ some w.heap.size := fun q => Nat.lt_irrefl _ (h.lt (.inr q))
  have HF0 : Hid (Fr (rcHas g v) w (w.alloc (.cells (enH x).toArray 103))) := Fr.ofBelow hb0
  have hg1 := heap_alloc_new w (.cells (enH x).toArray 103)
  clear h hb0 hB
  rcases idxR_gone s.row x.pos with ⟨e1, _, e3⟩ | ⟨i, e1, e2, e3, _, _⟩
  · rw [e1] at HFi
    rw [e3]
    have hD := h1.drew
    have hbs := build99 x (w.alloc (.cells (enH x).toArray 103)).drew
    have c2 : (w.alloc (.cells (enH x).toArray 103)).cell? ⟨g, 2, none⟩ = some v := h1.cell 2
    obtain ⟨p2, q2, W2, hr2, hC, hF, hN, k3, f3, hF5⟩ := hD.push hn x 99
    have HC := hidd hC
    have HF := hidd (HF0.out.trans ((Fr.drew (T := rcHas g v) _).trans hF fun _ _ q => q) fun _ _ q => q)
    have HN : Hid (∀ k, (Value.slice p2 (s.row.length + 1) q2).ownBlock = some k → v.ownBlock = some k ∨ w.heap.size ≤ k) := fun k hk => (hN k hk).imp id fun q => Nat.le_of_lt (Nat.lt_of_lt_of_le hsz q)
    have c3 := hD.cell 2
    have c3' : ((w.alloc (.cells (enH x).toArray 103)).drew.alloc (.cells (enH x).toArray 103)).cell? ⟨g, 2, none⟩ = some v := (hD.later (below_new _ _)).cell 2
    have hB4 : (w.alloc (.cells (enH x).toArray 103)).drew.heap[w.heap.size]? = some (.cells (enH x).toArray 103) := hg1
    have S1 := heap_kept hB4 (below_new _ (.cells (enH x).toArray 103))
    have S5 : W2.heap[w.heap.size]? = some (.cells (enH x).toArray 103) := (hF5.block _ hsz hvw).trans hB4
    have S6 : (W2.setCell ⟨g, 2, none⟩ (.slice p2 (s.row.length + 1) q2)).heap[w.heap.size]? = some (.cells (enH x).toArray 103) := (Below.heap_setCell _ _ _ _ (by show w.heap.size ≠ g; omega)).trans S5
    obtain ⟨p, c, hv⟩ := h1.shape
    subst hv
    clear h1 hC hF hN HF0 e1 e3 hF5 hvw hg1 hD
    change (w.alloc (.cells (enH x).toArray 103)).drew.cell? _ = some (.slice p s.row.length c) at c3
    generalize hX : (enH x).toArray = X at *
    generalize x.pos = z at *
    go_enter Try.func61, Try.ntmps61
    go_wp2_with (go_at_call 60; fail)
    refine HFi.out.mono ?_
    rintro e W ⟨rfl, rfl⟩
    clear HFi
    generalize hg0 : w.heap.size = g0 at *
    generalize w.alloc (.cells X 103) = w1 at *
    generalize hm5 : s.row.length + 1 = m5 at *
    generalize hn0 : s.row.length = n0 at *
    go_wp2
    refine wp_region_fork (S := fun u => u.heap[g0]? = some (.cells X 103)) [0, 1, 2, 3, 5] 4 6 [(7, false), (8, true), (9, true), (10, false)] (by kernel_rfl) rfl (by kernel_rfl) (fun d _ _ _ _ h => by cases d <;> exact h) hB4 ?_
    try simp only [Act.put]
    generalize World.drew _ = V at *
    refine wpFork_yield (v := .pointer (some ⟨g, 0, none⟩)) rfl rfl (fun u _ => by simp [execOp, Act.eval]) ?_
    simp only [Act.put, List.setIfInBounds_toArray, List.set_cons_succ, List.set_cons_zero]
    refine wpFork_yield (v := .pointer (some ⟨g, 0, none⟩)) rfl rfl (fun u _ => by simp [execOp, Act.eval]) ?_
    simp only [Act.put, List.setIfInBounds_toArray, List.set_cons_succ, List.set_cons_zero]
    refine wpFork_yield (v := .pointer (some ⟨g, 0, none⟩)) rfl rfl (fun u _ => by go_simp) ?_
    simp only [Act.put, List.setIfInBounds_toArray, List.set_cons_succ, List.set_cons_zero]
    refine wpFork_yield (v := .pointer (some ⟨g, 2, none⟩)) rfl rfl (fun u _ => by go_simp) ?_
    simp only [Act.put, List.setIfInBounds_toArray, List.set_cons_succ, List.set_cons_zero]
    refine wpFork_yield (v := .agg X) rfl rfl (fun u hu => by
      have hu' : u.heap[g0]? = some (.cells (enH x).toArray 103) := by rw [hX]; exact hu
      have e := loadH (RngH.of hu')
      rw [hX] at e
      unfold execOp
      simp only [Act.eval]
      change Sem.run Try.prog (Instr.loadAt 103 (.pointer (some ⟨g0, 0, none⟩)) >>= fun v => pure (Next.value v)) u = _
      simp only [Sem.run_bind, e, Result.andThen_ok, Sem.run_pure]) ?_
    simp only [Act.put, List.setIfInBounds_toArray, List.set_cons_succ, List.set_cons_zero]
    refine wpFork_nil rfl rfl ?_ ?_
    · simp only [inOrd, List.getElem?_cons_zero, List.getElem?_cons_succ]
      refine wpOrd_run (v := .slice p n0 c) (w' := V) rfl (by go_simp) hB4 ?_
      simp only [Act.put, List.setIfInBounds_toArray, List.set_cons_succ, List.set_cons_zero]
      refine wpOrd_run (v := .slice (some ⟨V.heap.size, 0, none⟩) 1 1) (w' := V.alloc (.cells X 103)) rfl (by simp [execOp, Act.eval, hbs]) S1 ?_
      simp only [Act.put, List.setIfInBounds_toArray, List.set_cons_succ, List.set_cons_zero]
      refine wpOrd_run (v := .slice p2 m5 q2) (w' := W2) rfl (by simp [execOp, Act.eval, resolve, invoke, builtin, hr2, Result.andThen]) S5 ?_
      simp only [Act.put, List.setIfInBounds_toArray, List.set_cons_succ, List.set_cons_zero]
      refine wpOrd_yield (v := .pointer (some ⟨g, 0, none⟩)) rfl (fun u _ => by go_simp) ?_
      simp only [Act.put, List.setIfInBounds_toArray, List.set_cons_succ, List.set_cons_zero]
      refine wpOrd_yield (v := .pointer (some ⟨g, 2, none⟩)) rfl (fun u _ => by go_simp) ?_
      simp only [Act.put, List.setIfInBounds_toArray, List.set_cons_succ, List.set_cons_zero]
      refine wpOrd_do (w' := W2.setCell ⟨g, 2, none⟩ (.slice p2 m5 q2)) rfl (by go_simp) S6 ?_
      refine wpOrd_nil ?_
      simp only [Act.put]
      generalize W2.setCell ⟨g, 2, none⟩ (.slice p2 m5 q2) = Y at *
      clear hr2 S1 S5 S6 k3 f3 c3' hbs c3
      go_wp2
      subst hg0 hn0
      exact ⟨rfl, _, results_none rfl _ _ _, rfl, _, HC.out, HF.out, HN.out⟩
    · simp only [inOrd, List.getElem?_cons_zero, List.getElem?_cons_succ]
      refine wpOrd_run (v := .slice (some ⟨V.heap.size, 0, none⟩) 1 1) (w' := V.alloc (.cells X 103)) rfl (by simp [execOp, Act.eval, hbs]) S1 ?_
      simp only [Act.put, List.setIfInBounds_toArray, List.set_cons_succ, List.set_cons_zero]
      refine wpOrd_run (v := .slice p n0 c) (w' := V.alloc (.cells X 103)) rfl (by go_simp) S1 ?_
      simp only [Act.put, List.setIfInBounds_toArray, List.set_cons_succ, List.set_cons_zero]
      refine wpOrd_run (v := .slice p2 m5 q2) (w' := W2) rfl (by simp [execOp, Act.eval, resolve, invoke, builtin, hr2, Result.andThen]) S5 ?_
      simp only [Act.put, List.setIfInBounds_toArray, List.set_cons_succ, List.set_cons_zero]
      refine wpOrd_yield (v := .pointer (some ⟨g, 0, none⟩)) rfl (fun u _ => by go_simp) ?_
      simp only [Act.put, List.setIfInBounds_toArray, List.set_cons_succ, List.set_cons_zero]
      refine wpOrd_yield (v := .pointer (some ⟨g, 2, none⟩)) rfl (fun u _ => by go_simp) ?_
      simp only [Act.put, List.setIfInBounds_toArray, List.set_cons_succ, List.set_cons_zero]
      refine wpOrd_do (w' := W2.setCell ⟨g, 2, none⟩ (.slice p2 m5 q2)) rfl (by go_simp) S6 ?_
      refine wpOrd_nil ?_
      simp only [Act.put]
      generalize W2.setCell ⟨g, 2, none⟩ (.slice p2 m5 q2) = Y at *
      clear hr2 S1 S5 S6 k3 f3 c3' hbs c3
      go_wp2
      subst hg0 hn0
      exact ⟨rfl, _, results_none rfl _ _ _, rfl, _, HC.out, HF.out, HN.out⟩
  · rw [e1] at HFi
    rw [e3]
    have HLv := hidd (leave6 h1 e2 hn)
    have c2 : (w.alloc (.cells (enH x).toArray 103)).cell? ⟨g, 2, none⟩ = some v := h1.cell 2
    obtain ⟨p0, c0, hv⟩ := h1.shape
    have hn2 : (s.row.eraseIdx i).length ≤ 1000000 := by rw [List.length_eraseIdx]; split <;> omega
    subst hv
    clear h1 e1 e3
    generalize hX : (enH x).toArray = X at *
    generalize x.pos = z at *
    go_enter Try.func61, Try.ntmps61
    go_wp2_with (first | (go_at_call 60; refine HFi.out.mono ?_; rintro e W ⟨rfl, rfl⟩) | (go_at_call 66; fail))
    refine HLv.out.mono ?_
    rintro e W ⟨rfl, v, hC3, hF3, hN3⟩
    generalize hw1 : w.alloc (.cells X 103) = w1 at *
    have hD := hC3.drew
    have hbs := build99 x W.drew
    have hB4 : W.drew.heap[w.heap.size]? = some (.cells X 103) := (hF3.block _ hsz fun q => by omega).trans hg1
    have hv3 : v.ownBlock ≠ some w.heap.size := fun q => by have := hN3 _ q; omega
    have hs3 : w1.heap.size ≤ W.heap.size := hF3.size
    obtain ⟨p2, q2, W2, hr2, hC, hF, hN, k3, f3, hF5⟩ := hD.push hn2 x 99
    rw [hX] at hr2 hbs
    have d2 : W.cell? ⟨g, 2, none⟩ = some v := hC3.cell 2
    have c3 := hD.cell 2
    have c3' : (W.drew.alloc (.cells X 103)).cell? ⟨g, 2, none⟩ = some v := (hD.later (below_new _ _)).cell 2
    have S1 := heap_kept hB4 (below_new _ (.cells X 103))
    have S5 : W2.heap[w.heap.size]? = some (.cells X 103) := (hF5.block _ (Nat.lt_of_lt_of_le hsz hs3) hv3).trans hB4
    have S6 : (W2.setCell ⟨g, 2, none⟩ (.slice p2 ((s.row.eraseIdx i).length + 1) q2)).heap[w.heap.size]? = some (.cells X 103) := (Below.heap_setCell _ _ _ _ (by show w.heap.size ≠ g; omega)).trans S5
    have HC := hidd hC
    have HF : Hid (Fr (rcHas g (.slice p0 s.row.length c0)) w (W2.setCell ⟨g, 2, none⟩ (.slice p2 ((s.row.eraseIdx i).length + 1) q2))) := by
      refine HF0.out.trans (T' := fun k => k = g ∨ w1.heap.size ≤ k) ((hF3.mono fun k _ (q : k = g) => (.inl q : k = g ∨ w1.heap.size ≤ k)).trans ((Fr.drew (T := rcHas g v) W).trans hF fun _ _ q => q) fun k _ q => ?_) fun k hk q => ?_
      · exact q.imp id fun q => hN3 k q
      · exact .inl (q.resolve_right (by omega))
    have HN : Hid (∀ k, (Value.slice p2 ((s.row.eraseIdx i).length + 1) q2).ownBlock = some k → (Value.slice p0 s.row.length c0).ownBlock = some k ∨ w.heap.size ≤ k) := fun k hk => .inr (by
      rcases hN k hk with q | q
      · have := hN3 k q
        omega
      · have : W.heap.size ≤ k := q
        omega)
    obtain ⟨p, c, hvv⟩ := hC3.shape
    subst hvv
    clear hC3 hF3 hN3 hC hF hN HF0 HLv HFi c2 hg1 hs3 hD hF5 hv3
    generalize hg0 : w.heap.size = g0 at *
    change W.drew.cell? _ = some (.slice p (s.row.eraseIdx i).length c) at c3
    generalize hm5 : (s.row.eraseIdx i).length + 1 = m5 at *
    generalize hn0 : ({ s with row := s.row.eraseIdx i } : CSt).row.length = n0 at *
    go_wp2
    refine wp_region_fork (S := fun u => u.heap[g0]? = some (.cells X 103)) [0, 1, 2, 3, 5] 4 6 [(7, false), (8, true), (9, true), (10, false)] (by kernel_rfl) rfl (by kernel_rfl) (fun d _ _ _ _ h => by cases d <;> exact h) hB4 ?_
    try simp only [Act.put]
    generalize World.drew _ = V at *
    refine wpFork_yield (v := .pointer (some ⟨g, 0, none⟩)) rfl rfl (fun u _ => by simp [execOp, Act.eval]) ?_
    simp only [Act.put, List.setIfInBounds_toArray, List.set_cons_succ, List.set_cons_zero]
    refine wpFork_yield (v := .pointer (some ⟨g, 0, none⟩)) rfl rfl (fun u _ => by simp [execOp, Act.eval]) ?_
    simp only [Act.put, List.setIfInBounds_toArray, List.set_cons_succ, List.set_cons_zero]
    refine wpFork_yield (v := .pointer (some ⟨g, 0, none⟩)) rfl rfl (fun u _ => by go_simp) ?_
    simp only [Act.put, List.setIfInBounds_toArray, List.set_cons_succ, List.set_cons_zero]
    refine wpFork_yield (v := .pointer (some ⟨g, 2, none⟩)) rfl rfl (fun u _ => by go_simp) ?_
    simp only [Act.put, List.setIfInBounds_toArray, List.set_cons_succ, List.set_cons_zero]
    refine wpFork_yield (v := .agg X) rfl rfl (fun u hu => by
      have hu' : u.heap[g0]? = some (.cells (enH x).toArray 103) := by rw [hX]; exact hu
      have e := loadH (RngH.of hu')
      rw [hX] at e
      unfold execOp
      simp only [Act.eval]
      change Sem.run Try.prog (Instr.loadAt 103 (.pointer (some ⟨g0, 0, none⟩)) >>= fun v => pure (Next.value v)) u = _
      simp only [Sem.run_bind, e, Result.andThen_ok, Sem.run_pure]) ?_
    simp only [Act.put, List.setIfInBounds_toArray, List.set_cons_succ, List.set_cons_zero]
    refine wpFork_nil rfl rfl ?_ ?_
    · simp only [inOrd, List.getElem?_cons_zero, List.getElem?_cons_succ]
      refine wpOrd_run (v := .slice p n0 c) (w' := V) rfl (by go_simp) hB4 ?_
      simp only [Act.put, List.setIfInBounds_toArray, List.set_cons_succ, List.set_cons_zero]
      refine wpOrd_run (v := .slice (some ⟨V.heap.size, 0, none⟩) 1 1) (w' := V.alloc (.cells X 103)) rfl (by simp [execOp, Act.eval, hbs]) S1 ?_
      simp only [Act.put, List.setIfInBounds_toArray, List.set_cons_succ, List.set_cons_zero]
      refine wpOrd_run (v := .slice p2 m5 q2) (w' := W2) rfl (by simp [execOp, Act.eval, resolve, invoke, builtin, hr2, Result.andThen]) S5 ?_
      simp only [Act.put, List.setIfInBounds_toArray, List.set_cons_succ, List.set_cons_zero]
      refine wpOrd_yield (v := .pointer (some ⟨g, 0, none⟩)) rfl (fun u _ => by go_simp) ?_
      simp only [Act.put, List.setIfInBounds_toArray, List.set_cons_succ, List.set_cons_zero]
      refine wpOrd_yield (v := .pointer (some ⟨g, 2, none⟩)) rfl (fun u _ => by go_simp) ?_
      simp only [Act.put, List.setIfInBounds_toArray, List.set_cons_succ, List.set_cons_zero]
      refine wpOrd_do (w' := W2.setCell ⟨g, 2, none⟩ (.slice p2 m5 q2)) rfl (by go_simp) S6 ?_
      refine wpOrd_nil ?_
      simp only [Act.put]
      generalize W2.setCell ⟨g, 2, none⟩ (.slice p2 m5 q2) = Y at *
      clear hr2 S1 S5 S6 k3 f3 c3' hbs c3
      go_wp2
      subst hg0 hn0
      exact ⟨rfl, _, results_none rfl _ _ _, rfl, _, HC.out, HF.out, HN.out⟩
    · simp only [inOrd, List.getElem?_cons_zero, List.getElem?_cons_succ]
      refine wpOrd_run (v := .slice (some ⟨V.heap.size, 0, none⟩) 1 1) (w' := V.alloc (.cells X 103)) rfl (by simp [execOp, Act.eval, hbs]) S1 ?_
      simp only [Act.put, List.setIfInBounds_toArray, List.set_cons_succ, List.set_cons_zero]
      refine wpOrd_run (v := .slice p n0 c) (w' := V.alloc (.cells X 103)) rfl (by go_simp) S1 ?_
      simp only [Act.put, List.setIfInBounds_toArray, List.set_cons_succ, List.set_cons_zero]
      refine wpOrd_run (v := .slice p2 m5 q2) (w' := W2) rfl (by simp [execOp, Act.eval, resolve, invoke, builtin, hr2, Result.andThen]) S5 ?_
      simp only [Act.put, List.setIfInBounds_toArray, List.set_cons_succ, List.set_cons_zero]
      refine wpOrd_yield (v := .pointer (some ⟨g, 0, none⟩)) rfl (fun u _ => by go_simp) ?_
      simp only [Act.put, List.setIfInBounds_toArray, List.set_cons_succ, List.set_cons_zero]
      refine wpOrd_yield (v := .pointer (some ⟨g, 2, none⟩)) rfl (fun u _ => by go_simp) ?_
      simp only [Act.put, List.setIfInBounds_toArray, List.set_cons_succ, List.set_cons_zero]
      refine wpOrd_do (w' := W2.setCell ⟨g, 2, none⟩ (.slice p2 m5 q2)) rfl (by go_simp) S6 ?_
      refine wpOrd_nil ?_
      simp only [Act.put]
      generalize W2.setCell ⟨g, 2, none⟩ (.slice p2 m5 q2) = Y at *
      clear hr2 S1 S5 S6 k3 f3 c3' hbs c3
      go_wp2
      subst hg0 hn0
      exact ⟨rfl, _, results_none rfl _ _ _, rfl, _, HC.out, HF.out, HN.out⟩
end Go.Proofs.Ytencclpcebpgmaa
/- The document's cache: place, one that may leave leaves where it is full; lists up to a million. -/
namespace Go.Proofs.Ytencclpcebpgmaa
open Go.RowKit Go.Maps
variable {w w' : World} {g d : Nat} {v : Value} {s : CSt}
theorem eraseP_at {P : Hld → Bool} : ∀ (r : List Hld) (i : Nat) (x : Hld), r[i]? = some x → P x = true → (∀ j y, j < i → r[j]? = some y → P y = false) → r.eraseP P = r.eraseIdx i
  | [], i, x, h, _, _ => by simp at h
  | a :: t, 0, x, h, hp, _ => by
    have : a = x := by simpa using h
    subst this
    rw [List.eraseP_cons_of_pos hp]
    rfl
  | a :: t, i + 1, x, h, hp, hb => by
    have ha : P a = false := hb 0 a (by omega) rfl
    rw [List.eraseP_cons_of_neg (by rw [ha]; simp), List.eraseIdx_cons_succ, eraseP_at t i x (by simpa using h) hp fun j y hj hy => hb (j + 1) y (by omega) (by simpa using hy)]
theorem eraseP_no {P : Hld → Bool} : ∀ (r : List Hld), (∀ j y, j < r.length → r[j]? = some y → P y = false) → r.eraseP P = r
  | [], _ => rfl
  | a :: t, hb => by
    have ha : P a = false := hb 0 a (by simp) rfl
    rw [List.eraseP_cons_of_neg (by rw [ha]; simp), eraseP_no t fun j y hj hy => hb (j + 1) y (by simp; omega) (by simpa using hy)]
theorem below_drewN (w : World) (k : Nat) : Below w.heap.size w (w.drewN k) := belowN (Below.refl _ _) _
set_option maxRecDepth 20000 in
set_option maxHeartbeats 1000000 in
theorem place6 (h : RCk w g d v s) (hn : s.row.length ≤ 1000000) : Calls Try.prog 62 #[.pointer (some ⟨g, 0, none⟩)] w fun e w' => e = .returned (.tuple #[]) ∧ ∃ v', RCk w' g d v' { s with row := placeR s.size s.row } ∧ Fr (fun k => k = g) w w' ∧ ∀ k, v'.ownBlock = some k → v.ownBlock = some k ∨ w.heap.size ≤ k := by
  have c1 : w.cell? ⟨g, 1, none⟩ = some (.int .i64 s.size) := h.cell 1
  have c2 : w.cell? ⟨g, 2, none⟩ = some v := h.cell 2
  have HD := hidd h
  obtain ⟨p, c, hv⟩ := h.shape
  subst hv
  clear h
  unfold placeR
  by_cases hlt : (s.row.length : Int) < s.size
  · rw [if_pos hlt]
    generalize hsz : s.size = sz at *
    go_enter Try.func62, Try.ntmps62
    go_wp2
    go_quiet (fail)
    have HB := hidd (below_drewN w nq)
    go_wp2
    subst hsz
    exact ⟨rfl, _, results_none rfl _ _ _, rfl, _, HD.out.later HB.out, Fr.ofBelow HB.out, fun _ q => .inl q⟩
  · rw [if_neg hlt]
    have hlt2 : ¬ ((s.row.length : Int) < s.size) := hlt
    generalize hsz : s.size = sz at *
    go_enter Try.func62, Try.ntmps62
    go_wp2
    go_quiet (fail)
    have HB := hidd (below_drewN w nq)
    have HD2 := hidd (HD.out.later HB.out)
    generalize hV : w.drewN nq = V at *
    have d2 : V.cell? ⟨g, 2, none⟩ = some (.slice p s.row.length c) := HD2.out.cell 2
    have HR : Hid (∀ i x, s.row[i]? = some x → ∃ b, p = some ⟨b, 0, none⟩ ∧ AtH V b i x) := fun i x hx => by
      obtain ⟨b, c', hv', ha⟩ := HD2.out.at hx
      injection hv' with q1
      exact ⟨b, q1, ha⟩
    have HLv : Hid (∀ i : Nat, i < s.row.length → Calls Try.prog 66 #[.pointer (some ⟨g, 0, none⟩), .int .i64 i] V _) := fun i hi => leave6 HD2.out hi hn
    clear c1 c2 HD
    go_wp2
    go_loopw [2] (fun s2 wx => ∃ i : Nat, i ≤ s.row.length ∧ s2 = .int .i64 i ∧ wx = V ∧ Hid (∀ j y, j < i → s.row[j]? = some y → (!y.fast) = false)) (fun s2 _ => s.row.length - (intOf s2).toNat)
    case atStart => exact ⟨0, by omega, rfl, rfl, fun j y hj _ => by omega⟩
    case round =>
      obtain ⟨i, hi, rfl, rfl, HN⟩ := hrel
      by_cases hi2 : i < s.row.length
      · obtain ⟨x, hx⟩ : ∃ x, s.row[i]? = some x := ⟨_, List.getElem?_eq_getElem hi2⟩
        obtain ⟨b, rfl, ha⟩ := HR.out i x hx
        have hi3 : (i : Int) < s.row.length := by omega
        have hp := ha.fast
        cases hf : x.fast
        · have HE := hidd (eraseP_at (P := fun h => !h.fast) s.row i x hx (by simp [hf]) HN.out)
          rw [hf] at hp
          clear ha HR HN hx hf
          go_wp2_with (go_at_call 66; fail)
          refine (HLv.out i hi2).mono ?_
          rintro e W2 ⟨rfl, v', hC, hF, hN⟩
          have HC := hidd hC
          have HF := hidd ((Fr.ofBelow (T := fun k => k = g) HB.out).trans hF fun _ _ q => q)
          have HN2 : Hid (∀ k, v'.ownBlock = some k → w.heap.size ≤ k) := fun k hk => Nat.le_trans HB.out.size (hN k hk)
          clear hC hF hN HLv
          go_wp2
          rw [← HE.out] at HC
          exact ⟨rfl, _, results_none rfl _ _ _, rfl, _, by rw [← hsz]; exact HC.out, HF.out, fun k q => .inr (HN2.out k q)⟩
        · have HN2 : Hid (∀ j y, j < i + 1 → s.row[j]? = some y → (!y.fast) = false) := fun j y hj hy => by
            by_cases q : j = i
            · rw [q, hx] at hy
              injection hy with hy
              rw [← hy, hf]
              rfl
            · exact HN.out j y (by omega) hy
          rw [hf] at hp
          clear ha HR HN hx hf
          go_wp2
          exact ⟨⟨i + 1, by omega, by go_num, trivial, HN2.out⟩, by simp [intOf]; omega⟩
      · obtain rfl : i = s.row.length := by omega
        have HE := hidd (eraseP_no (P := fun h => !h.fast) s.row HN.out)
        clear HR HN HLv
        go_wp2
        exact ⟨rfl, _, results_none rfl _ _ _, rfl, _, by rw [HE.out, ← hsz]; exact HD2.out, Fr.ofBelow HB.out, fun _ q => .inl q⟩
end Go.Proofs.Ytencclpcebpgmaa
/- The document's cache: what it holds, told in order; lists up to a million. -/
namespace Go.Proofs.Ytencclpcebpgmaa
open Go.RowKit Go.Maps
variable {w w' : World} {g d : Nat} {v : Value} {s : CSt}
set_option maxRecDepth 20000 in
set_option maxHeartbeats 1000000 in
theorem order6 (h : RCk w g d v s) (hn : s.row.length ≤ 1000000) : Calls Try.prog 19 #[.pointer (some ⟨g, 0, none⟩)] w fun e w' => ∃ v', e = .returned v' ∧ w'.ownsRow w.heap.size 3 1 v' (ordV s.row).length ((ordV s.row).map (Value.int .i64)) ∧ Below w.heap.size w w' := by
  obtain ⟨i0, hi0, hz0, hz1, hz2⟩ := info_parts info3i
  obtain ⟨p, c, hv⟩ := h.shape
  subst hv
  have HD := hidd h
  have hgw : g < w.heap.size := h.lt (.inl rfl)
  have HO0 : Hid (w.ownsRow w.heap.size 3 1 (.slice none 0 0) 0 []) := World.ownsRow_nil _ _ _ _
  clear h
  generalize hB : w.heap.size = B at *
  go_enter Try.func19, Try.ntmps19
  go_wp2
  go_loopw [3, 4] (fun s3 s4 wx => ∃ i : Nat, i ≤ s.row.length ∧ s4 = .int .i64 i ∧ Hid (wx.ownsRow B 3 1 s3 i ((ordV (s.row.take i)).map (Value.int .i64))) ∧ Hid (Below B w wx)) (fun _ s4 _ => s.row.length - (intOf s4).toNat)
  case atStart => exact ⟨0, by omega, rfl, HO0.out, Below.refl _ _⟩
  case round =>
    obtain ⟨i, hi, rfl, HO, HBx⟩ := hrel
    have hC : RCk wr g d (.slice p s.row.length c) s := HD.out.kept fun k hk => HBx.out.block k (by rw [← hB]; exact HD.out.lt hk)
    have c2 : wr.cell? ⟨g, 2, none⟩ = some (.slice p s.row.length c) := hC.cell 2
    by_cases hi2 : i < s.row.length
    · obtain ⟨x, hx⟩ : ∃ x, s.row[i]? = some x := ⟨_, List.getElem?_eq_getElem hi2⟩
      obtain ⟨b, c', hv', ha⟩ := hC.at hx
      injection hv' with q1 q2 q3
      subst q1
      have hi3 : (i : Int) < s.row.length := by omega
      have hp := ha.pos
      have hBlt : B ≤ wr.heap.size := by have := HBx.out.size; omega
      have hown1 := HO.out
      have HB2 : Hid (∀ w2, (wr.alloc (.cells #[.int .i64 x.pos] 3)).grownBy w2 u3.ownBlock → Below B wr w2) := fun w2 hg2 =>
        (((Below.refl B wr).alloc hBlt _).grown hg2 (by simp; omega) fun k hk => (World.ownsRow.lt hown1 k hk).1)
      have hT : Hid ((ordV (s.row.take (i + 1))).map (Value.int .i64) = (ordV (s.row.take i)).map (Value.int .i64) ++ [.int .i64 x.pos]) := by
        show _ = _
        rw [List.take_add_one, hx]
        simp [ordV]
      clear HO HO0 hC ha hx q3
      generalize x.pos = px at *
      go_wp2_with (at_builtin; refine wpList_append_own_at _ rfl (.tmp 14) (.tmp 23) 54 rfl B 3 i0 (.int .i64 0) 1 8 Try.underlying54 hi0 hz0 hz1 hz2 rfl (by decide) u3 i _ rfl (hown1.alloc _) ⟨wr.heap.size, 0, none⟩ 1 1 [.int .i64 px] rfl rfl (cell_one_new _ _ _) (ints_oneCell .i64 [px]) (by unfold maxLen; omega) (by omega) (by simp; omega) ?_; intro v' w2 hown2 hg2 hnil hloc; have hb2 := HB2.out w2 hg2; clear hg2 hloc hnil hown1 HB2)
      have HOn : Hid (w2.ownsRow B 3 1 v' (i + 1) ((ordV (s.row.take (i + 1))).map (Value.int .i64))) := by
        rw [hT.out]
        exact hown2
      exact ⟨⟨i + 1, by omega, by go_num, HOn.out, HBx.out.trans hb2⟩, by simp [intOf]; omega⟩
    · obtain rfl : i = s.row.length := by omega
      have hO := HO.out
      rw [List.take_length] at hO
      have HO' : Hid (wr.ownsRow B 3 1 u3 (ordV s.row).length ((ordV s.row).map (Value.int .i64))) := by
        show World.ownsRow _ _ _ _ _ _ _
        have : (ordV s.row).length = s.row.length := by simp [ordV]
        rw [this]
        exact hO
      clear HO HO0 hC hO
      go_wp2
      go_ret
      exact ⟨_, rfl, HO'.out, HBx.out⟩
end Go.Proofs.Ytencclpcebpgmaa
/- A holding of the document's cache built out of its parts; the cache and its disk told apart; no condition. -/
namespace Go.Proofs.Ytencclpcebpgmaa
open Go.RowKit Go.Maps
theorem fillA (p : Int) (f : Nat → Int) (z0 z2 : Value) (B : List Value) (hB : B.length = 1024) (rest : List (Nat × Value)) (place : Nat → Option (Nat × Nat)) (h0 : place 0 = some (0, 1)) (h1 : place 1 = some (1, 1024)) :
    Instr.fill place (z0 :: (B ++ [z2])).toArray ((0, .int .i64 p) :: (1, .agg (blk f)) :: rest) = Instr.fill place (.int .i64 p :: (enK f ++ [z2])).toArray rest := by
  have hb := blk_size f
  have hl : (z0 :: (B ++ [z2])).toArray.size = 1026 := by rw [List.size_toArray, List.length_cons, List.length_append, hB]; rfl
  conv => lhs; unfold Instr.fill
  rw [h0]
  simp only [Value.cells, List.size_toArray, List.length_cons, List.length_nil]
  rw [if_neg (by simp)]
  conv => lhs; unfold Instr.fill
  rw [h1]
  simp only [Value.cells, hb]
  rw [fold_over 0 #[.int .i64 p] _ (by rw [hl]; simp)]
  rw [if_neg (by simp [hB])]
  rw [fold_over 1 (blk f) _ (by simp [hB, hb])]
  simp only [List.take_zero, List.nil_append, List.take_succ_cons, List.drop_succ_cons, List.drop_zero, List.singleton_append, List.size_toArray, List.length_cons, List.length_nil, hb, Nat.zero_add, Nat.reduceAdd]
  rw [List.drop_append_of_le_length (by omega), List.drop_eq_nil_of_le (by omega)]
  rfl
theorem fillB (p : Int) (f : Nat → Int) (z2 : Value) (b : Bool) (place : Nat → Option (Nat × Nat)) (h2 : place 2 = some (1025, 1)) :
    Instr.fill place (.int .i64 p :: (enK f ++ [z2])).toArray [(2, .bool b)] = some (enH ⟨p, b, f⟩).toArray := by
  have hb := lenK f
  unfold Instr.fill
  rw [h2]
  simp only [Value.cells, List.size_toArray, List.length_cons, List.length_nil, List.length_append, hb]
  rw [if_neg (by simp)]
  rw [fold_over 1025 #[.bool b] _ (by simp [hb])]
  unfold Instr.fill enH
  generalize enK f = l at *
  simp [hb]
theorem zeroH : (enH ⟨0, false, nought⟩) = .int .i64 0 :: (enK nought ++ [.bool false]) := by unfold enH; simp only
theorem fillT (p : Int) (f : Nat → Int) (b : Bool) (N : List Value) (hN : N.length = 1024) (place : Nat → Option (Nat × Nat)) (h0 : place 0 = some (0, 1)) (h1 : place 1 = some (1, 1024)) (h2 : place 2 = some (1025, 1)) : Instr.fill place (Value.int .i64 0 :: (N ++ [.bool false])).toArray [(0, .int .i64 p), (1, .agg (blk f)), (2, .bool b)] = some (enH ⟨p, b, f⟩).toArray := by
  rw [fillA p f (.int .i64 0) (.bool false) N hN [(2, .bool b)] place h0 h1]
  exact fillB p f (.bool false) b place h2
theorem build103of (p : Int) (F Y : Array Value) (b : Bool) (u : World) (Z : Array Value) (z : (zeroValue 103).run Try.prog u = .ok (.agg Z) u) (hf : Instr.fill (fun x => [(0, 1), (1, 1024), (1025, 1)][x]?) Z [(0, Value.int IntKind.i64 p), (1, Value.agg F), (2, Value.bool b)] = some Y) :
    (Instr.build 103 #[(0, .int .i64 p), (1, .agg F), (2, .bool b)]).run Try.prog u = .ok (.agg Y) u := by
  simp [Instr.build, z, run_underlying Try.underlying103, Value.cells]
  rw [hf]
  simp only [Sem.run_pure]
theorem zero103b (u : World) : ∃ N : List Value, N.length = 1024 ∧ (zeroValue 103).run Try.prog u = .ok (.agg (Value.int .i64 0 :: (N ++ [.bool false])).toArray) u := by
  have z := zero103 u
  rw [zeroH] at z
  exact ⟨enK nought, lenK nought, z⟩
theorem build103t (p : Int) (f : Nat → Int) (b : Bool) (u : World) : (Instr.build 103 #[(0, .int .i64 p), (1, .agg (blk f)), (2, .bool b)]).run Try.prog u = .ok (.agg (enH ⟨p, b, f⟩).toArray) u := by
  obtain ⟨N, hN, z⟩ := zero103b u
  exact build103of p (blk f) _ b u _ z (fillT p f b N hN _ (by simp) (by simp) (by simp))
theorem fillN (p : Int) (f : Nat → Int) (N : List Value) (hN : N.length = 1024) (place : Nat → Option (Nat × Nat)) (h0 : place 0 = some (0, 1)) (h1 : place 1 = some (1, 1024)) : Instr.fill place (Value.int .i64 0 :: (N ++ [.bool false])).toArray [(0, .int .i64 p), (1, .agg (blk f))] = some (enH ⟨p, false, f⟩).toArray := by
  rw [fillA p f (.int .i64 0) (.bool false) N hN [] place h0 h1]
  unfold Instr.fill enH
  simp only
theorem build103f (p : Int) (f : Nat → Int) (u : World) : (Instr.build 103 #[(0, .int .i64 p), (1, .agg (blk f))]).run Try.prog u = .ok (.agg (enH ⟨p, false, f⟩).toArray) u := by
  have z := zero103 u
  rw [zeroH] at z
  have hN := lenK nought
  generalize enK nought = N at *
  have hf := fillN p f N hN
  generalize (enH ⟨p, false, f⟩).toArray = Y at *
  generalize blk f = F at *
  generalize (Value.int .i64 0 :: (N ++ [.bool false])).toArray = Z at *
  simp [Instr.build, z, run_underlying Try.underlying103, Value.cells]
  rw [hf _ rfl rfl]
  simp only [Sem.run_pure]
variable {w w' : World} {g d n : Nat} {v : Value} {s : CSt} {R : RL} {t : RD}
theorem cd_apart (hc : RCk w g d v s) (hd : RDk w R n t) {k : Nat} (hk : R.has k) : ¬ rcHas g v k := fun q => by
  rcases hk with rfl | rfl | rfl
  · rcases q with q | q
    · exact box_ne hd.row hc.row (by decide) q
    · exact own_ne hc.own hd.row (by decide) q
  · rcases q with q | q
    · exact own_ne hd.now hc.row (by decide) (by rw [← q]; rfl)
    · exact rows_apart (by decide) hd.now rfl hc.own q
  · rcases q with q | q
    · exact own_ne hd.held hc.row (by decide) (by rw [← q]; rfl)
    · exact rows_apart (by decide) hd.held rfl hc.own q
/-- A cache of the document's and its disk. -/
structure RPr (w : World) (g : Nat) (R : RL) (v : Value) (n : Nat) (s : CSt) (t : RD) : Prop where
  c : RCk w g R.g v s
  d : RDk w R n t
theorem RPr.later (h : RPr w g R v n s t) (hb : Below w.heap.size w w') : RPr w' g R v n s t := ⟨h.c.later hb, h.d.later hb⟩
/-- The cache has changed. -/
theorem RPr.ofC {v' : Value} {s' : CSt} (h : RPr w g R v n s t) (hc : RCk w' g R.g v' s') (hF : Fr (rcHas g v) w w') : RPr w' g R v' n s' t :=
  ⟨hc, h.d.kept fun k hk => hF.block k (h.d.lt hk) (cd_apart h.c h.d hk)⟩
/-- Its disk has changed. -/
theorem RPr.ofD {t' : RD} (h : RPr w g R v n s t) (hd : RDk w' R n t') (hF : Fr R.has w w') : RPr w' g R v n s t' :=
  ⟨h.c.kept fun k hk => hF.block k (h.c.lt hk) fun q => cd_apart h.c h.d q hk, hd⟩
end Go.Proofs.Ytencclpcebpgmaa
/- The document's cache: Put; lists up to a million. -/
namespace Go.Proofs.Ytencclpcebpgmaa
open Go.RowKit Go.Maps
variable {w w' : World} {g d n : Nat} {v : Value} {s : CSt} {R : RL} {t : RD}
/-- Is the cache told that it may not, or that all it holds is fast? -/
def uE (n : Nat) (s : CSt) (t : RD) (k : Int) : Int := if wrE n t k = 0 then (if atR s.row k = none ∧ (fastN s.row : Int) = s.size then 160 else 0) else wrE n t k
def ptC (n : Nat) (s : CSt) (t : RD) (k : Int) (f : Nat → Int) : CSt := if uE n s t k = 0 then { s with row := (useP s k).1 ++ [⟨k, true, f⟩] } else s
theorem gone_none {r : List Hld} {k : Int} (h : atR r k = none) : goneR r k = r := by
  unfold atR at h
  unfold goneR
  refine List.eraseP_of_forall_not fun a ha => ?_
  have := List.find?_eq_none.1 h a ha
  exact this
theorem gone_place {m : Int} {r : List Hld} {k : Int} (h : atR r k = none) : goneR (placeR m r) k = placeR m r := by
  unfold atR at h
  refine gone_none ?_
  unfold atR
  refine List.find?_eq_none.2 fun a ha => List.find?_eq_none.1 h a ?_
  unfold placeR at ha
  split at ha
  · exact ha
  · exact List.mem_of_mem_eraseP ha
theorem place_len (m : Int) (r : List Hld) : (placeR m r).length ≤ r.length := by
  unfold placeR
  split
  · exact Nat.le_refl _
  · exact List.length_eraseP_le
theorem exec_b103t {o : Oper} {a : Act} {x y : Operand} {p : Int} {f : Nat → Int} {b : Bool} {W : World} (ho : o.op = .build 103 #[(0, x), (1, y), (2, .const (.bool b))]) (hx : a.eval x = .int .i64 p) (hy : a.eval y = .agg (blk f)) : (execOp a.eval o).run Try.prog W = .ok (.value (.agg (enH ⟨p, b, f⟩).toArray)) W := by
  have e := build103t p f b W
  generalize (enH ⟨p, b, f⟩).toArray = Z at *
  generalize blk f = Y at *
  have hc : a.eval (.const (.bool b)) = .bool b := rfl
  simp [execOp, ho, hx, hy, hc, e]
set_option maxRecDepth 20000 in
set_option maxHeartbeats 1000000 in
theorem put6 (h : RPr w g R v n s t) (hn : s.row.length ≤ 1000000) (k : Int) (f : Nat → Int) : Calls Try.prog 45 #[.pointer (some ⟨g, 0, none⟩), .int .i64 k, .agg (blk f)] w fun e w' => e = .returned (.int .i64 (uE n s t k)) ∧ ∃ v', RPr w' g R v' n (ptC n s t k f) t ∧ Fr (rcHas g v) w w' ∧ ∀ k, v'.ownBlock = some k → v.ownBlock = some k ∨ w.heap.size ≤ k := by
  have hb0 := below_new w (.cells (blk f) 59)
  have h1 := h.later hb0
  have HB0 := hidd hb0
  have hg1 := heap_alloc_new w (.cells (blk f) 59)
  have hbk : BlkAt (w.alloc (.cells (blk f) 59)) w.heap.size 0 f := BlkAt.of hg1
  have c0 : (w.alloc (.cells (blk f) 59)).cell? ⟨g, 0, none⟩ = some (.pointer (some ⟨R.g, 0, none⟩)) := h1.c.cell 0
  have c1 : (w.alloc (.cells (blk f) 59)).cell? ⟨g, 1, none⟩ = some (.int .i64 s.size) := h1.c.cell 1
  have hW := wrong6 h1.d k
  have hFi := find6 h1.c k hn
  have HP := hidd h
  have H1 := hidd h1
  have hgw : g < w.heap.size := h.c.lt (.inl rfl)
  have hvw : v.ownBlock ≠ some w.heap.size := fun q => Nat.lt_irrefl _ (h.c.lt (.inr q))
  clear h h1 hb0
  by_cases hz : wrE n t k = 0
  · rw [hz] at hW
    rcases idxR_gone s.row k with ⟨e1, e2, e3⟩ | ⟨i, e1, e2, e3, e4, e5⟩
    · rw [e1] at hFi
      by_cases hfu : (fastN s.row : Int) = s.size
      · have eu : uE n s t k = 160 := by unfold uE; rw [if_pos hz, if_pos ⟨e2, hfu⟩]
        have ec : ptC n s t k f = s := by unfold ptC; rw [eu, if_neg (by omega)]
        rw [eu, ec]
        have hq : ∀ m, Calls Try.prog 28 #[.pointer (some ⟨g, 0, none⟩)] ((w.alloc (.cells (blk f) 59)).drewN m) fun e w' => e = .returned (.int .i64 s.size) ∧ w' = (w.alloc (.cells (blk f) 59)).drewN m := fun m => by
          have := fast6 (H1.out.later (below_drewN _ m)).c hn
          rwa [hfu] at this
        clear hz e1 e2 e3 hg1 hbk hgw hvw
        generalize s.size = sz at *
        go_enter Try.func45, Try.ntmps45
        go_wp2_with (first | (go_at_call 59; refine hW.mono ?_; rintro e W ⟨rfl, rfl⟩) | (go_at_call 60; refine hFi.mono ?_; rintro e W ⟨rfl, rfl⟩))
        go_quiet (first | (go_at_call 28; refine Calls.quiet_of_same (hq _)))
        have HB := hidd (below_drewN (w.alloc (.cells (blk f) 59)) nq)
        go_wp2
        go_ret
        exact ⟨rfl, _, H1.out.later HB.out, (Fr.ofBelow (T := rcHas g v) HB0.out).trans (Fr.ofBelow (T := rcHas g v) HB.out) (fun _ _ q => q), fun _ q => .inl q⟩
      · have eu : uE n s t k = 0 := by unfold uE; rw [if_pos hz, if_neg (fun q => hfu q.2)]
        have ec : ptC n s t k f = { s with row := placeR s.size s.row ++ [⟨k, true, f⟩] } := by
          unfold ptC useP
          rw [eu, if_pos rfl, e2]
        rw [eu, ec]
        have hq : ∀ m, Calls Try.prog 28 #[.pointer (some ⟨g, 0, none⟩)] ((w.alloc (.cells (blk f) 59)).drewN m) fun e w' => e = .returned (.int .i64 (fastN s.row : Int)) ∧ w' = (w.alloc (.cells (blk f) 59)).drewN m := fun m => fast6 (H1.out.later (below_drewN _ m)).c hn
        have hne : ((fastN s.row : Int) == s.size) = false := by simp [hfu]
        have HG := hidd (gone_place (m := s.size) e2)
        have HPl : Hid (∀ m, Calls Try.prog 62 #[.pointer (some ⟨g, 0, none⟩)] ((w.alloc (.cells (blk f) 59)).drewN m) _) := fun m => place6 (H1.out.later (below_drewN _ m)).c hn
        have hsz1 : w.heap.size < (w.alloc (.cells (blk f) 59)).heap.size := by simp
        clear hz e1 e2 e3 hbk eu ec hfu
        generalize hX : (enH ⟨k, true, f⟩).toArray = X at *
        generalize (fastN s.row : Int) = fz at *
        generalize hszz : s.size = sz at *
        go_enter Try.func45, Try.ntmps45
        go_wp2_with (first | (go_at_call 59; refine hW.mono ?_; rintro e W ⟨rfl, rfl⟩) | (go_at_call 60; refine hFi.mono ?_; rintro e W ⟨rfl, rfl⟩))
        go_quiet (first | (go_at_call 28; refine Calls.quiet_of_same (hq _)))
        have HB := hidd (below_drewN (w.alloc (.cells (blk f) 59)) nq)
        go_wp2_with (go_at_call 62; fail)
        refine (HPl.out nq).mono ?_
        rintro e W2 ⟨rfl, v1, hC1, hF1, hN1⟩
        generalize w.alloc (.cells (blk f) 59) = w1 at *
        generalize w1.drewN nq = V at *
        have hs1 : w1.heap.size ≤ V.heap.size := HB.out.size
        have hs2 : V.heap.size ≤ W2.heap.size := hF1.size
        have hbk : BlkAt W2 w.heap.size 0 f := BlkAt.of ((hF1.block _ (Nat.lt_of_lt_of_le hsz1 hs1) fun q => by omega).trans ((HB.out.block _ hsz1).trans hg1))
        have HLa := hidd (last6 hC1 (Nat.le_trans (place_len _ _) hn) ⟨k, true, f⟩)
        rw [hX] at HLa
        have HF1 := hidd hF1
        have HN1 := hidd hN1
        clear hC1 hF1 hN1 hq HPl hg1
        go_wp2_with (first | refine wpList_loadM rfl (.tmp 5) rfl w.heap.size 0 rfl f hbk ?_ | (refine wpList_exec rfl (exec_b103t (x := .tmp 31) (y := .tmp 32) (p := k) (f := f) (b := true) rfl rfl rfl) ?_; rw [hX]) | (go_at_call 61; fail))
        refine HLa.out.mono ?_
        rintro e W3 ⟨rfl, v', hC, hF, hN⟩
        have hFF : Fr (rcHas g v) w W3 := by
          refine ((Fr.ofBelow (T := rcHas g v) HB0.out).trans (Fr.ofBelow (T := rcHas g v) HB.out) fun _ _ q => q).trans (T' := fun i => rcHas g v i ∨ V.heap.size ≤ i) ((HF1.out.mono fun i _ (q : i = g) => (.inl (.inl q) : rcHas g v i ∨ V.heap.size ≤ i)).trans hF fun i _ q => ?_) fun i hi q => ?_
          · rcases q with q | q
            · exact .inl (.inl q)
            · exact (HN1.out i q).imp (fun q => .inr q) id
          · exact q.resolve_right (by omega)
        have HC : Hid (RPr W3 g R v' n ⟨sz, placeR sz s.row ++ [⟨k, true, f⟩]⟩ t) := by
          have e : goneR (placeR sz s.row) k = placeR sz s.row := HG.out
          have := HP.out.ofC hC hFF
          rw [e] at this
          exact this
        have HF := hidd hFF
        have HN : Hid (∀ i, v'.ownBlock = some i → v.ownBlock = some i ∨ w.heap.size ≤ i) := fun i hi => by
          rcases hN i hi with q | q
          · exact (HN1.out i q).imp id fun q => by omega
          · exact .inr (by omega)
        clear hC hF hN hFF HLa
        go_wp2
        go_ret
        exact ⟨rfl, _, HC.out, HF.out, HN.out⟩
    · have eu : uE n s t k = 0 := by
        unfold uE
        rw [if_pos hz, if_neg]
        intro q
        rw [q.1] at e5
        simp at e5
      have ec : ptC n s t k f = { s with row := goneR s.row k ++ [⟨k, true, f⟩] } := by
        unfold ptC useP
        rw [eu, if_pos rfl]
        cases ha : atR s.row k with
        | none => rw [ha] at e5; simp at e5
        | some x => rfl
      rw [eu, ec]
      have HLa := hidd (last6 H1.out.c hn ⟨k, true, f⟩)
      rw [e1] at hFi
      have hi0 : ¬ ((i : Int) < 0) := by omega
      clear hz e1 e2 e3 e4 e5 hg1 hgw hvw eu ec
      generalize hX : (enH ⟨k, true, f⟩).toArray = X at *
      go_enter Try.func45, Try.ntmps45
      go_wp2_with (first | (go_at_call 59; refine hW.mono ?_; rintro e W ⟨rfl, rfl⟩) | (go_at_call 60; refine hFi.mono ?_; rintro e W ⟨rfl, rfl⟩) | refine wpList_loadM rfl (.tmp 5) rfl w.heap.size 0 rfl f hbk ?_ | (refine wpList_exec rfl (exec_b103t (x := .tmp 31) (y := .tmp 32) (p := k) (f := f) (b := true) rfl rfl rfl) ?_; rw [hX]) | (go_at_call 61; fail))
      refine HLa.out.mono ?_
      rintro e W3 ⟨rfl, v', hC, hF, hN⟩
      have hFF := (Fr.ofBelow (T := rcHas g v) HB0.out).trans hF fun _ _ q => q
      have HC := hidd (HP.out.ofC hC hFF)
      have HF := hidd hFF
      have HN : Hid (∀ k, v'.ownBlock = some k → v.ownBlock = some k ∨ w.heap.size ≤ k) := fun k hk => (hN k hk).imp id fun q => Nat.le_trans HB0.out.size q
      clear hC hF hN hFF HLa
      go_wp2
      go_ret
      exact ⟨rfl, _, HC.out, HF.out, HN.out⟩
  · have eu : uE n s t k = wrE n t k := by unfold uE; rw [if_neg hz]
    have ec : ptC n s t k f = s := by unfold ptC; rw [eu, if_neg hz]
    have hne : (wrE n t k != 0) = true := by simp [hz]
    rw [eu, ec]
    clear eu ec hFi hbk hg1 hgw hvw
    generalize wrE n t k = r at *
    go_enter Try.func45, Try.ntmps45
    go_wp2_with (first | (go_at_call 59; refine hW.mono ?_; rintro e W ⟨rfl, rfl⟩))
    go_ret
    exact ⟨rfl, _, H1.out, Fr.ofBelow HB0.out, fun _ q => .inl q⟩
end Go.Proofs.Ytencclpcebpgmaa
