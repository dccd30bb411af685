/- A table's All: what it hands back holds the rows as they were at the call, in memory of its own; of no table: over nothing; fewer than ten million rows. -/
import Derived.Test.YtbchbappdpbkiaaFdcT
import Derived.Test.YtbchbappdpbkiaaFddT
namespace Go.Proofs.Ytbchbappdpbkiaa
open Go.RowKit Go.Maps
theorem eqlNilT (b n c : Nat) (w : World) : (binOp .eql 62 (.slice (some ⟨b, 0, none⟩) n c) (.slice none 0 0)).run Try.prog w = .ok (.bool false) w := by
  have h : ∀ d : Nat, (Op.equalIn (d + 1) 62 (.slice (some ⟨b, 0, none⟩) n c) (.slice none 0 0)).run Try.prog w = .ok false w := fun d => by
    simp [Op.equalIn, run_underlying Try.underlying62]
  simp only [binOp]
  simp [Op.equal, Op.maxDepth, h 9999]
theorem eqlNNT (w : World) : (binOp .eql 62 (.slice none 0 0) (.slice none 0 0)).run Try.prog w = .ok (.bool true) w := by
  have h : ∀ d : Nat, (Op.equalIn (d + 1) 62 (.slice none 0 0) (.slice none 0 0)).run Try.prog w = .ok true w := fun d => by
    simp [Op.equalIn, run_underlying Try.underlying62]
  simp only [binOp]
  simp [Op.equal, Op.maxDepth, h 9999]
theorem slfT {w : World} {B e sz n : Nat} {v : Value} {xs : List Value} (h : w.ownsRow B e sz v n xs) : ∃ p c, v = .slice p n c := by
  rcases own_form h with ⟨rfl, h0⟩ | ⟨b, c, rfl, hb⟩
  · exact ⟨none, 0, by rw [h0]⟩
  · exact ⟨_, c, rfl⟩
set_option maxRecDepth 20000 in
theorem cloneT {w : World} {v : Value} {R : List (Option ByteArray)} (h : w.ownsRow 0 96 2 v R.length (R.flatMap enT)) (hl : R.length ≤ 10000000) : Calls Try.prog 65 #[v] w fun e w' => ∃ v', e = .returned v' ∧ w'.ownsRow w.heap.size 96 2 v' R.length (R.flatMap enT) ∧ Below w.heap.size w w' := by
  obtain ⟨i0, hi0, hz0, hz1, hz2⟩ := info_parts infT
  rcases own_form h with ⟨rfl, h0⟩ | ⟨b, c, rfl, hb⟩
  · have hR : R = [] := List.eq_nil_of_length_eq_zero h0
    subst hR
    have heq := eqlNNT
    clear h hl h0 hi0
    go_enter Try.func65, Try.ntmps65
    go_wp2
    go_ret
    exact ⟨_, rfl, World.ownsRow_nil _ _ _ _, Below.refl _ _⟩
  · have heq := eqlNilT
    have hnews : ∀ j u, (R.flatMap enT)[j]? = some u → (w.alloc (.cells #[] 96)).cell? ((⟨b, 0, none⟩ : Addr).add j) = some u := fun j u hu => by
      rw [Go.WideShapes.add_plain, Nat.zero_add]
      rw [(below_new w _).cell (p := ⟨b, j, none⟩) hb]
      have hj := (List.getElem?_eq_some_iff.1 hu).1
      rw [fml lenT] at hj
      rw [World.ownsRow.cellAt h j hj]
      exact hu
    have h1 : ∀ u ∈ R.flatMap enT, u.oneCell' = true := fun u hu => by
      obtain ⟨x, _, hx⟩ := List.mem_flatMap.1 hu
      exact oneT x u hx
    have hbt : ((0 + R.length) + (0 + R.length) / 4 + 192) * 24 ≤ 281474976710656 := by omega
    obtain ⟨v', w', hrun, hown, hgr, _⟩ := run_append_own_wide (P := Try.prog) (w := w.alloc (.cells #[] 96)) w.heap.size 62 62 96 i0 _ 2 24 Try.underlying62 hi0 hz0 hz1 hz2 rfl (by omega)
      (.slice (some ⟨w.heap.size, 0, none⟩) 0 0) 0 [] (World.ownsRow_lit w #[] 0 (Nat.le_refl _) (by unfold maxLen; omega) (by simp)) ⟨b, 0, none⟩ R.length c (R.flatMap enT) (fml lenT R) hnews h1 (by unfold maxLen; omega) hbt (by simp)
    rw [Nat.zero_add, List.nil_append] at hown
    have HO := (show Hid _ from hown)
    have HB : Hid (Below w.heap.size w w') := by
      have := (below_new w (.cells #[] 96)).grown hgr (by simp) (fun k hk => by injection hk with hk; rw [← hk]; exact Nat.le_refl _)
      exact this
    obtain ⟨N, hN⟩ : ∃ N, R.length = N := ⟨_, rfl⟩
    rw [hN] at hrun
    have HN : Hid (R.length = N) := hN
    rw [hN]
    clear hown hgr hnews h1 hbt h hN hl
    go_enter Try.func65, Try.ntmps65
    go_wp2_with (first | (at_builtin; refine wpList_app rfl (.tmp 5) (.tmp 6) rfl rfl rfl hrun ?_))
    go_ret
    refine ⟨_, rfl, ?_, HB.out⟩
    rw [← HN.out]
    exact HO.out
theorem all_noneT {w : World} {v : Value} (h : NoTabT w v) : Calls Try.prog 47 #[v] w fun e w' => ∃ q, e = .returned (.func (.func 63) #[] #[.pointer (some ⟨q, 0, none⟩)]) ∧ w'.heap[q]? = some (.cells #[.slice none 0 0] 62) ∧ w.heap.size ≤ q ∧ Below w.heap.size w w' := by
  have hc : Calls Try.prog 62 #[v] w fun e w' => e = .returned (.slice none 0 0) ∧ w' = w := by
    go_enter Try.func62, Try.ntmps62
    go_wp2_with (first | (go_at_call 59; refine (none_yesT h).mono ?_; rintro e W ⟨rfl, rfl⟩))
    go_ret
    exact ⟨rfl, rfl⟩
  clear h
  go_enter Try.func47, Try.ntmps47
  go_wp2_with (first | (go_at_call 62; refine hc.mono ?_; rintro e W ⟨rfl, rfl⟩))
  go_ret
  exact ⟨_, rfl, heap_alloc_new _ _, Nat.le_refl _, below_new _ _⟩
theorem all_okT {w : World} {g le : Nat} {v : Value} {m : Int} {R : List (Option ByteArray)} (h : TabT w g v le m R) (hl : R.length ≤ 10000000) : Calls Try.prog 47 #[.pointer (some ⟨g, 0, none⟩)] w fun e w' => ∃ q v', e = .returned (.func (.func 63) #[] #[.pointer (some ⟨q, 0, none⟩)]) ∧ w'.heap[q]? = some (.cells #[v'] 62) ∧ w'.ownsRow w.heap.size 96 2 v' R.length (R.flatMap enT) ∧ w.heap.size ≤ q ∧ Below w.heap.size w w' := by
  obtain ⟨c0, c1, c2, c3, c4⟩ := h.cells
  have hcl := cloneT h.own hl
  have hc : Calls Try.prog 62 #[.pointer (some ⟨g, 0, none⟩)] w fun e w' => ∃ v', e = .returned v' ∧ w'.ownsRow w.heap.size 96 2 v' R.length (R.flatMap enT) ∧ Below w.heap.size w w' := by
    clear h hl
    go_enter Try.func62, Try.ntmps62
    go_wp2_with (first | (go_at_call 59; refine (none_noT c0).mono ?_; rintro e W ⟨rfl, rfl⟩) | (go_at_call 65; fail))
    refine hcl.mono ?_
    rintro e W2 ⟨v', rfl, ho, hb⟩
    have HO := (show Hid _ from ho)
    have HB := (show Hid _ from hb)
    clear ho hb hcl
    go_wp2
    go_ret
    exact ⟨_, rfl, HO.out, HB.out⟩
  clear h hl hcl
  go_enter Try.func47, Try.ntmps47
  go_wp2_with (first | (go_at_call 62; fail))
  refine hc.mono ?_
  rintro e W2 ⟨v', rfl, ho, hb⟩
  have HO := (show Hid _ from ho)
  have HB := (show Hid _ from hb)
  obtain ⟨p, c, rfl⟩ := slfT HO.out
  obtain ⟨N, hN⟩ : ∃ N, R.length = N := ⟨_, rfl⟩
  rw [hN] at HO
  have HN : Hid (R.length = N) := hN
  clear ho hb hc hN
  go_wp2
  go_ret
  exact ⟨_, _, rfl, heap_alloc_new _ _, by rw [HN.out]; exact own_later HO.out (below_new _ _), HB.out.size, below_next HB.out (below_new _ _)⟩
end Go.Proofs.Ytbchbappdpbkiaa
