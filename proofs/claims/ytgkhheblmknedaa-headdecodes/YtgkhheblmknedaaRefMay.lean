/- May of the document: may a header be; on a layout whose log has 32 to 256 blocks. -/
import Derived.Test.YtgkhheblmknedaaOwn
namespace Go.Proofs.Ytgkhheblmknedaa
open Go.RowKit
set_option maxRecDepth 20000 in
set_option maxHeartbeats 2000000 in
theorem refMay_any (b l i a c d e f g : Int) (ts : List Int) (p : Option Addr) (cap : Nat) (w : World) (hl : 32 ≤ l ∧ l ≤ 256) (hlen : ts.length < 9223372036854775807) (hts : IntsAt w p ts) :
    Calls Try.prog 31 #[.agg (lay9 b l i a c d e f g), .agg #[.slice p ts.length cap]] w fun e' w' => e' = .returned (.bool (mayB (1 + l) b (l - 1) ts)) ∧ Below w.heap.size w w' := by
  obtain ⟨n, hn⟩ : ∃ n, ts.length = n := ⟨_, rfl⟩
  have HT : Hid (IntsAt w p ts ∧ ts.length = n) := ⟨hts, hn⟩
  rw [hn] at hlen ⊢
  clear hts hn
  obtain ⟨hl1, hl2⟩ := hl
  have hw1 : IntKind.i64.wrap (1 + l) = 1 + l := by rw [IntKind.wrap_i64]; omega
  have hw2 : IntKind.i64.wrap (l - 1) = l - 1 := by rw [IntKind.wrap_i64]; omega
  generalize hq : mayB (1 + l) b (l - 1) ts = res
  have HQ : Hid (mayB (1 + l) b (l - 1) ts = res) := hq
  clear hq
  unfold lay9
  by_cases hbig : l - 1 < (n : Int)
  · have er : res = false := by rw [← HQ.out]; exact decide_eq_false fun q => by have := q.1; have := HT.out.2; omega
    subst er
    have g0 : decide (l - 1 < (n : Int)) = true := decide_eq_true hbig
    clear HQ
    go_enter Try.func31, Try.ntmps31
    go_wp2
    go_ret
    exact ⟨rfl, bel_al (below_new _ _) _⟩
  · have g0 : decide (l - 1 < (n : Int)) = false := decide_eq_false hbig
    go_enter Try.func31, Try.ntmps31
    go_wp2
    generalize hX : (w.alloc (.cells #[.int .i64 b, .int .i64 l, .int .i64 i, .int .i64 a, .int .i64 c, .int .i64 d, .int .i64 e, .int .i64 f, .int .i64 g] 26)).alloc (.cells #[.slice p n cap] 35) = X
    have hL := lay_cells (w := X) (h0 := w.heap.size) (b := b) (l := l) (i := i) (a := a) (c := c) (d := d) (e := e) (f := f) (g := g) (by rw [← hX]; exact heap_alloc2_old _ _ _)
    have hS : X.cell? ⟨w.heap.size + 1, 0, none⟩ = some (.slice p n cap) := cell_one (t := 35) (by rw [← hX]; exact heap_alloc2_new _ _ _)
    have HB : Hid (Below w.heap.size w X) := by rw [← hX]; exact bel_al (below_new _ _) _
    obtain ⟨c0, c1, c2, c3, c4, c5, c6, c7, c8, hlt⟩ := hL
    clear hX c2 c3 c4 c5 c6 c7 c8 hlt
    go_loopw [5, 6, 7] (fun s5 _ _ wx => ∃ k : Nat, k ≤ n ∧ s5 = .int .i64 k ∧ Hid ((∀ t ∈ ts.take k, 1 + l ≤ t ∧ t < b) ∧ (ts.take k).Nodup) ∧ wx = X) (fun s5 _ _ _ => n - (intOf s5).toNat)
    case atStart => exact ⟨0, by omega, rfl, by simp; exact trivial, rfl⟩
    case round =>
      obtain ⟨k, hk, rfl, HG, hwx⟩ := hrel
      have hwx := hwx.symm
      subst hwx
      by_cases hk2 : (k : Int) < n
      · obtain ⟨hts, hn⟩ := HT.out
        have hx : ts[k]? = some ts[k] := List.getElem?_eq_getElem (by omega)
        have htk : ts.take (k + 1) = ts.take k ++ [ts[k]] := by rw [List.take_add_one, hx]; rfl
        have hmem : ts[k] ∈ ts := List.getElem_mem _
        obtain ⟨b1, o1, rfl, l1, C1⟩ := hts (by omega)
        generalize ts[k] = x at hx htk hmem
        have q1 : X.cell? ⟨b1, o1 + k, none⟩ = some (.int .i64 x) := (HB.out.cell (p := ⟨b1, o1 + k, none⟩) l1).trans (C1 k x hx)
        have HC1 : Hid (∀ j, j < k → ∃ x2, ts[j]? = some x2 ∧ X.cell? ⟨b1, o1 + j, none⟩ = some (.int .i64 x2)) := fun j hj => by
          have h2 : ts[j]? = some ts[j] := List.getElem?_eq_getElem (by omega)
          exact ⟨ts[j], h2, (HB.out.cell (p := ⟨b1, o1 + j, none⟩) l1).trans (C1 j _ h2)⟩
        have HX : Hid (ts.take (k + 1) = ts.take k ++ [x] ∧ x ∈ ts ∧ ts.length = n) := ⟨htk, hmem, hn⟩
        clear hx htk hmem hts hn C1
        by_cases h2 : x < 1 + l ∨ b ≤ x
        · have hres : res = false := by
            rw [← HQ.out]
            exact decide_eq_false fun q => by have := q.2.1 x HX.out.2.1; omega
          subst hres
          clear HQ
          rcases h2 with h2 | h2
          · have g2 : decide (x < 1 + l) = true := decide_eq_true h2
            clear h2
            go_wp2
            go_ret
            exact ⟨rfl, HB.out⟩
          · have g3 : decide (b ≤ x) = true := decide_eq_true h2
            clear h2
            go_wp2
            all_goals
              go_ret
              exact ⟨rfl, HB.out⟩
        · have g2 : decide (x < 1 + l) = false := decide_eq_false (by omega)
          have g3 : decide (b ≤ x) = false := decide_eq_false (by omega)
          have hxb : 1 + l ≤ x ∧ x < b := by omega
          have HXB : Hid _ := hxb
          clear h2 hxb
          go_wp2
          go_loopw [7] (fun s7 wx => ∃ j : Nat, j ≤ k ∧ s7 = .int .i64 j ∧ Hid (x ∉ ts.take j) ∧ wx = X) (fun s7 _ => k - (intOf s7).toNat)
          case atStart => exact ⟨0, by omega, rfl, by simp; exact trivial, rfl⟩
          case round =>
            obtain ⟨j, hj, rfl, HNI, hwx⟩ := hrel
            have hwx := hwx.symm
            subst hwx
            by_cases hj2 : (j : Int) < k
            · obtain ⟨x2, hx2, q2⟩ := HC1.out j (by omega)
              by_cases he : x2 = x
              · have hres : res = false := by
                  rw [← HQ.out]
                  refine decide_eq_false fun q => ?_
                  have hn := HX.out.2.2
                  have q3 := q.2.2
                  rw [← List.take_append_drop (k + 1) ts, HX.out.1] at q3
                  have hm : x2 ∈ ts.take k := List.mem_iff_getElem?.2 ⟨j, by rw [List.getElem?_take, if_pos (by omega)]; exact hx2⟩
                  exact (List.nodup_append.1 (List.nodup_append.1 q3).1).2.2 x2 hm x (by simp) he
                subst hres
                have g4 : (x2 == x) = true := by simpa using he
                clear HQ hx2 he
                go_wp2
                go_ret
                exact ⟨rfl, HB.out⟩
              · have g4 : (x2 == x) = false := by simpa using he
                have HN2 : Hid (x ∉ ts.take (j + 1)) := by
                  show x ∉ ts.take (j + 1)
                  rw [List.take_add_one, hx2]
                  intro q
                  rcases List.mem_append.1 q with q | q
                  · exact HNI.out q
                  · have q' : x = x2 := by simpa using q
                    exact he q'.symm
                clear hx2 he HNI
                go_wp2
                exact ⟨⟨j + 1, by omega, by go_num, HN2.out, trivial⟩, by simp [intOf]; omega⟩
            · obtain rfl : j = k := by omega
              have HG2 : Hid ((∀ t ∈ ts.take (j + 1), 1 + l ≤ t ∧ t < b) ∧ (ts.take (j + 1)).Nodup) := by
                rw [show ts.take (j + 1) = ts.take j ++ [x] from HX.out.1]
                refine ⟨fun t ht => ?_, List.nodup_append.2 ⟨HG.out.2, by simp, fun y hy z hz e => ?_⟩⟩
                · rcases List.mem_append.1 ht with ht | ht
                  · exact HG.out.1 t ht
                  · rw [List.mem_singleton.1 ht]; exact HXB.out
                · rw [List.mem_singleton.1 hz] at e; exact HNI.out (e ▸ hy)
              clear HNI HG
              go_wp2
              exact ⟨⟨j + 1, by omega, by go_num, HG2.out, trivial⟩, by simp [intOf]; omega⟩
      · obtain rfl : k = n := by omega
        have hres : res = true := by
          rw [← HQ.out]
          have hn := HT.out.2
          have hg := HG.out
          rw [List.take_of_length_le (by omega)] at hg
          exact decide_eq_true ⟨by omega, hg.1, hg.2⟩
        subst hres
        clear HQ HG
        go_wp2
        go_ret
        exact ⟨rfl, HB.out⟩
end Go.Proofs.Ytgkhheblmknedaa
