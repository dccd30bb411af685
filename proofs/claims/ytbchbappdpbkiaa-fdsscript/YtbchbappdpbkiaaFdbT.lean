/- The program's table of things of one type: New, Get, Set, Open, Close, beside whatever lies apart; fewer than ten million rows; no other condition. -/
import Derived.Test.YtbchbappdpbkiaaFdaT
import Derived.Test.YtbchbappdpbkiaaFdX
namespace Go.Proofs.Ytbchbappdpbkiaa
open Go.RowKit Go.Maps
def thT : Option ByteArray → Value
  | none => .string ⟨#[]⟩
  | some x => .string x
theorem infT : (Try.prog.info? 96).map (fun i => (i.zero, i.size, i.bytes)) = some (some (.agg #[.bool false, .string ⟨#[]⟩]), 2, 24) := by kernel_rfl
theorem pushT {w : World} {v : Value} {R : List (Option ByteArray)} (h : w.ownsRow 0 96 2 v R.length (R.flatMap enT)) (hn : R.length ≤ 10000000) (ty : TypeId) :
    ∃ v' w', (Builtin.append_ #[62, 62] ty #[v, .slice (some ⟨w.heap.size, 0, none⟩) 1 1]).run Try.prog (w.alloc (.cells #[.bool false, .string ⟨#[]⟩] 96)) = .ok v' w' ∧ w'.ownsRow 0 96 2 v' (R ++ [none]).length ((R ++ [none]).flatMap enT) ∧ Fr (fun b => v.ownBlock = some b) w w' ∧ ∀ k, v'.ownBlock = some k → v.ownBlock = some k ∨ w.heap.size ≤ k := by
  obtain ⟨i0, hi0, hz0, hz1, hz2⟩ := info_parts infT
  exact own_pushG lenT oneT Try.underlying62 hi0 hz0 hz1 hz2 rfl (by omega) (by omega) h (Nat.zero_le _) hn none ty
/-- A table as a part of memory. -/
def tpT (g : Nat) (v : Value) (le : Nat) (m : Int) (R : List (Option ByteArray)) : Part := ⟨fun k => k = g ∨ v.ownBlock = some k, fun W => TabT W g v le m R⟩
theorem tpT_good (g : Nat) (v : Value) (le : Nat) (m : Int) (R : List (Option ByteArray)) : (tpT g v le m R).Good := fun _ _ hs _ h => TabT.frame hs (h g (.inl rfl)) fun k hk => h k (.inr hk)
/-- What a call makes of a table: it holds R' then, and nothing else has turned. -/
def ToT (W : World) (g : Nat) (v : Value) (m : Int) (R' : List (Option ByteArray)) (W' : World) : Prop :=
  ∃ v' le', TabT W' g v' le' m R' ∧ Fr (fun k => k = g ∨ v.ownBlock = some k) W W' ∧ ∀ k, v'.ownBlock = some k → v.ownBlock = some k ∨ W.heap.size ≤ k
section
variable {w W W' : World} {g le : Nat} {v : Value} {m : Int} {R : List (Option ByteArray)} {l : List Part}
theorem tab_of_sepT (h : Sep w W (tpT g v le m R :: l)) : TabT W g v le m R := h.head
theorem sep_toT (h : Sep w W (tpT g v le m R :: l)) {R' : List (Option ByteArray)} (hT : ToT W g v m R' W') : ∃ v' le', Sep w W' (tpT g v' le' m R' :: l) := by
  obtain ⟨v', le', h1, h2, h3⟩ := hT
  refine ⟨v', le', h.turn h2 (fun k _ q => q) (tpT_good _ _ _ _ _) h1 ?_⟩
  rintro k (rfl | q)
  · exact ⟨.inl (.inl rfl), h1.lt⟩
  · refine ⟨?_, h1.vlt q⟩
    rcases h3 k q with r | r
    · exact .inl (.inr r)
    · exact .inr r
theorem newT (n : Int) (hn : n ≤ 9223372036854775807) (w : World) : Calls Try.prog 8 #[.int .i64 n] w fun e w' => ∃ g, e = .returned (.pointer (some ⟨g, 0, none⟩)) ∧ TabT w' g (.slice none 0 0) 0 (max n 0) [] ∧ Below w.heap.size w w' ∧ w.heap.size ≤ g := by
  go_enter Try.func8, Try.ntmps8
  go_wp2
  all_goals go_ret
  all_goals refine ⟨_, rfl, ⟨?_, World.ownsRow_nil _ _ _ _, Nat.le_refl _, ?_, ?_⟩, below_new w _, Nat.le_refl _⟩
  all_goals first
    | (have := heap_alloc_new w (.cells (tbT w.heap.size (max n 0) (cnt ([] : List (Option ByteArray))) (0 : Nat) (.slice none 0 0)) 64); exact this)
    | (show (_ : Int) ≤ max n 0; simp only [cnt]; omega)
    | omega
    | (rw [show max n 0 = 0 by omega]; have := heap_alloc_new w (.cells (tbT w.heap.size 0 (cnt ([] : List (Option ByteArray))) (0 : Nat) (.slice none 0 0)) 64); exact this)
    | (rw [show max n 0 = n by omega]; have := heap_alloc_new w (.cells (tbT w.heap.size n (cnt ([] : List (Option ByteArray))) (0 : Nat) (.slice none 0 0)) 64); exact this)
theorem sep_newT (h : Sep w W l) (n : Int) (hn : n ≤ 9223372036854775807) : Calls Try.prog 8 #[.int .i64 n] W fun e W' => ∃ g, e = .returned (.pointer (some ⟨g, 0, none⟩)) ∧ Sep w W' (tpT g (.slice none 0 0) 0 (max n 0) [] :: l) := by
  refine (newT n hn W).mono ?_
  rintro e W' ⟨g, rfl, h1, h2, h3⟩
  refine ⟨g, rfl, h.add h2 (tpT_good _ _ _ _ _) h1 ?_⟩
  rintro k (rfl | q)
  · exact ⟨h3, h1.lt⟩
  · cases q
theorem get_noneT {v : Value} (h : NoTabT w v) (k : Int) : Calls Try.prog 42 #[v, .int .i64 k] w fun e w' => e = .returned (.tuple #[.string ⟨#[]⟩, .int .i64 1]) ∧ w' = w := by
  go_enter Try.func42, Try.ntmps42
  go_wp2_with (first | (go_at_call 61; refine (refused_noneT h k).mono ?_; rintro e W ⟨rfl, rfl⟩))
  go_ret2
  exact ⟨rfl, rfl⟩
theorem close_noneT {v : Value} (h : NoTabT w v) (k : Int) : Calls Try.prog 44 #[v, .int .i64 k] w fun e w' => e = .returned (.tuple #[.string ⟨#[]⟩, .int .i64 1]) ∧ w' = w := by
  go_enter Try.func44, Try.ntmps44
  go_wp2_with (first | (go_at_call 42; refine (get_noneT h k).mono ?_; rintro e W ⟨rfl, rfl⟩))
  go_ret2
  exact ⟨rfl, rfl⟩
theorem open_noneT {v : Value} (h : NoTabT w v) (x : ByteArray) : Calls Try.prog 40 #[v, .string x] w fun e w' => e = .returned (.tuple #[.int .i64 0, .int .i64 1]) ∧ w' = w := by
  go_enter Try.func40, Try.ntmps40
  go_wp2_with (first | (go_at_call 59; refine (none_yesT h).mono ?_; rintro e W ⟨rfl, rfl⟩))
  go_ret2
  exact ⟨rfl, rfl⟩
theorem set_noneT {v : Value} (h : NoTabT w v) (k : Int) (x : ByteArray) : Calls Try.prog 43 #[v, .int .i64 k, .string x] w fun e w' => e = .returned (.int .i64 1) ∧ w' = w := by
  go_enter Try.func43, Try.ntmps43
  go_wp2_with (first | (go_at_call 61; refine (refused_noneT h k).mono ?_; rintro e W ⟨rfl, rfl⟩))
  go_ret
  exact ⟨rfl, rfl⟩
theorem get_okT (h : TabT w g v le m R) (fd : Int) : Calls Try.prog 42 #[.pointer (some ⟨g, 0, none⟩), .int .i64 fd] w fun e w' => e = .returned (.tuple #[thT (getO R fd), .int .i64 (refV R fd)]) ∧ w' = w := by
  have hr := refused_okT h fd
  obtain ⟨c0, c1, c2, c3, c4⟩ := h.cells
  obtain ⟨p, c, rfl, hf⟩ := h.form
  rcases fd_cases R fd with ⟨k, x, rfl, hk, h1, h2, _, _⟩ | ⟨h1, h2, _, _⟩
  · rw [h2]
    rw [h1] at hr ⊢
    obtain ⟨b, rfl, hb, hc⟩ := hf k _ hk
    have b1 := hc 1 _ rfl
    have hkN := (List.getElem?_eq_some_iff.1 hk).1
    generalize R.length = N at *
    show Calls _ _ _ _ fun e w' => e = .returned (.tuple #[.string x, .int .i64 0]) ∧ w' = w
    clear h hf hc hk h1 h2
    go_enter Try.func42, Try.ntmps42
    go_wp2_with (first | (go_at_call 61; refine hr.mono ?_; rintro e W ⟨rfl, rfl⟩))
    go_ret2
    exact ⟨rfl, rfl⟩
  · rw [h2]
    rw [h1] at hr ⊢
    show Calls _ _ _ _ fun e w' => e = .returned (.tuple #[.string ⟨#[]⟩, .int .i64 13]) ∧ w' = w
    clear h hf h1 h2
    go_enter Try.func42, Try.ntmps42
    go_wp2_with (first | (go_at_call 61; refine hr.mono ?_; rintro e W ⟨rfl, rfl⟩))
    go_ret2
    exact ⟨rfl, rfl⟩
theorem set_rowT {k : Nat} {x y : ByteArray} (hk : R[k]? = some (some x)) : (R.flatMap enT).set (k * 2 + 1) (thT (some y)) = (R.set k (some y)).flatMap enT := by
  refine List.ext_getElem? fun j => ?_
  have hkl := (List.getElem?_eq_some_iff.1 hk).1
  have hl1 := fml lenT R
  have hl2 := fml lenT (R.set k (some y))
  rw [List.length_set] at hl2
  rcases Nat.lt_or_ge j (R.length * 2) with hj | hj
  · have hjd : j = (j / 2) * 2 + j % 2 := by omega
    have hm : j % 2 < 2 := by omega
    obtain ⟨r, hr⟩ : ∃ r, R[j / 2]? = some r := ⟨_, List.getElem?_eq_getElem (by omega)⟩
    have g1 := fm_get enT 2 lenT R (j / 2) (j % 2) r hr hm
    rw [← hjd] at g1
    by_cases e : j / 2 = k
    · have hr2 : (R.set k (some y))[j / 2]? = some (some y) := by rw [e]; exact List.getElem?_set_self hkl
      have g2 := fm_get enT 2 lenT _ (j / 2) (j % 2) _ hr2 hm
      rw [← hjd] at g2
      rw [g2]
      rw [e, hk] at hr
      injection hr with hr
      subst hr
      rcases (show j % 2 = 0 ∨ j % 2 = 1 by omega) with q | q
      · rw [List.getElem?_set_ne (by omega), g1, q]
        rfl
      · rw [show k * 2 + 1 = j by omega, List.getElem?_set_self (by omega), q]
        rfl
    · have hr2 : (R.set k (some y))[j / 2]? = some r := by rw [List.getElem?_set_ne (Ne.symm e)]; exact hr
      have g2 := fm_get enT 2 lenT _ (j / 2) (j % 2) _ hr2 hm
      rw [← hjd] at g2
      rw [g2, List.getElem?_set_ne (by omega), g1]
  · rw [List.getElem?_eq_none (by rw [List.length_set, hl1]; exact hj), List.getElem?_eq_none (by rw [hl2]; exact hj)]
theorem set_okT (h : TabT w g v le m R) (fd : Int) (y : ByteArray) : Calls Try.prog 43 #[.pointer (some ⟨g, 0, none⟩), .int .i64 fd, thT (some y)] w fun e w' => e = .returned (.int .i64 (refV R fd)) ∧ TabT w' g v le m (setR R fd y) ∧ Fr (fun k => v.ownBlock = some k) w w' := by
  have hr := refused_okT h fd
  have HT : Hid (TabT w g v le m R) := h
  obtain ⟨c0, c1, c2, c3, c4⟩ := h.cells
  obtain ⟨p, c, rfl, hf⟩ := h.form
  rcases fd_cases R fd with ⟨k, x, rfl, hk, h1, _, _, h3⟩ | ⟨h1, _, _, h3⟩
  · rw [h1] at hr ⊢
    rw [h3]
    obtain ⟨b, rfl, hb, hc⟩ := hf k _ hk
    have b1 := hc 1 _ rfl
    have hkN := (List.getElem?_eq_some_iff.1 hk).1
    have hfz := World.ownsRow.frozenAt h.own (k * 2 + 1)
    have hst := World.ownsRow.stored h.own (k * 2 + 1) (thT (some y))
    have HK : Hid (R[k]? = some (some x)) := hk
    have hne : g ≠ b := fun e => by
      have := h.row
      obtain ⟨_, h2⟩ := h.own
      rcases h2 with ⟨q, _⟩ | ⟨b', cap, cur, q, _, hh, _⟩
      · cases q
      · injection q with q1
        injection q1 with q1
        injection q1 with q1
        rw [e, q1, hh] at this
        injection this with this
        injection this with _ this
        exact absurd this (by decide)
    have HC := (show Hid _ from hst)
    obtain ⟨N, hN⟩ : ∃ N, R.length = N := ⟨_, rfl⟩
    rw [hN] at c4 hkN
    unfold thT
    clear h hf hc hk h1 h3 hst
    go_enter Try.func43, Try.ntmps43
    go_wp2_with (first | (go_at_call 61; refine hr.mono ?_; rintro e W ⟨rfl, rfl⟩))
    go_ret
    have ho := HC.out.1
    rw [set_rowT HK.out] at ho
    refine ⟨rfl, ⟨?_, ?_, ?_, ?_, HT.out.top⟩, (Fr.setCell _ b _ _).mono fun i _ q => by rw [q]; rfl⟩
    · rw [cnt_set_same R k y x HK.out]
      exact (heap_setCell_other _ _ _ _ (by exact hne)).trans HT.out.row
    · rw [List.length_set]
      exact ho
    · exact lf_set HT.out.lel HK.out
    · rw [cnt_set_same R k y x HK.out]
      exact HT.out.cnm
  · rw [h1] at hr ⊢
    rw [h3]
    clear h hf h1 h3
    unfold thT
    go_enter Try.func43, Try.ntmps43
    go_wp2_with (first | (go_at_call 61; refine hr.mono ?_; rintro e W ⟨rfl, rfl⟩))
    go_ret
    exact ⟨rfl, HT.out, Fr.refl _ _⟩
end
end Go.Proofs.Ytbchbappdpbkiaa
