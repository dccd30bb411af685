/- A call of both desks: they answer the same, and hold the same behind it; for desks that hold fewer than a million inodes. -/
import Derived.Test.YtpghalekcgnefaaDk15
import Derived.Test.YtpghalekcgnefaaDk5
import Derived.OpenShut
namespace Go.Proofs.Ytpghalekcgnefaa
open Go.RowKit Go.Maps
theorem walk_ok {w0 w : World} {g b h : Nat} {m : Int} {L : List (Int × Int)} {vr : Value} {c : Nat} {l : List Part} (HS0 : Sep w0 w (dkP g b m L :: rfP h m vr L :: l)) (ho : Dok m L c) (hc : c < 999999) (s : Nat) (h100 : s ≤ 100) :
    Calls Try.prog 11 #[.pointer (some ⟨g, 0, none⟩), .pointer (some ⟨h, 0, none⟩), .int .i64 s] w fun e w' => e = .returned (.bool true) ∧ ∃ v', Sep w0 w' (dkP g b m (holdL m L (s + 1)) :: rfP h m v' (holdL m L (s + 1)) :: l) := callsIn_wide.1 (walk_in HS0 ho hc s h100)
/-- Both desks hold the same. -/
def Pair2 (w0 W : World) (g b h : Nat) (m : Int) (c : Nat) (l : List Part) : Prop := ∃ L v, Dok m L c ∧ Sep w0 W (dkP g b m L :: rfP h m v L :: l)
set_option maxRecDepth 20000 in
set_option maxHeartbeats 4000000 in
theorem act_ok {w0 w : World} {g b h : Nat} {m : Int} {c : Nat} {l : List Part} (H0 : Pair2 w0 w g b h m c l) (hc : c < 999998) (x : Int × Int) (hx : (Lit.int .i64 x.2).wf = true) :
    Calls Try.prog 9 #[.pointer (some ⟨g, 0, none⟩), .pointer (some ⟨h, 0, none⟩), .agg #[.int .i64 x.1, .int .i64 x.2]] w fun e w' => e = .returned (.bool true) ∧ Pair2 w0 w' g b h m (c + 1) l := by
  obtain ⟨L, vr, ho, h1⟩ := H0
  have HO : Hid (Dok m L c) := ho
  have hlen : L.length ≤ 1000000 := by have := ho.lec; omega
  have HOh : Hid (Dok m (holdL m L x.2) (c + 1)) := ho.hold (Go.bounds_i64 hx).2
  have HOd : Hid (Dok m (dropL L x.2) (c + 1)) := (ho.drop x.2).mono (by omega)
  have S1 := h1.box #[.int .i64 x.1, .int .i64 x.2] 31
  have hr : (w.alloc (.cells #[.int .i64 x.1, .int .i64 x.2] 31)).heap[w.heap.size]? = some (.cells #[.int .i64 x.1, .int .i64 x.2] 31) := heap_alloc_new _ _
  have c0 : (w.alloc (.cells #[.int .i64 x.1, .int .i64 x.2] 31)).cell? ⟨w.heap.size, 0, none⟩ = some (.int .i64 x.1) := Joins.cell_of_block hr 0
  have c1 : (w.alloc (.cells #[.int .i64 x.1, .int .i64 x.2] 31)).cell? ⟨w.heap.size, 1, none⟩ = some (.int .i64 x.2) := Joins.cell_of_block hr 1
  have HS1 : Hid (Sep w0 (w.alloc (.cells #[.int .i64 x.1, .int .i64 x.2] 31)) (bxP w.heap.size #[.int .i64 x.1, .int .i64 x.2] 31 :: dkP g b m L :: rfP h m vr L :: l)) := S1
  clear h1 ho S1 hr
  go_enter Try.func9, Try.ntmps9
  go_upto_region 1 with fail
  generalize w.alloc (.cells #[.int .i64 x.1, .int .i64 x.2] 31) = X at *
  generalize w.heap.size = B at *
  obtain ⟨xc, xi⟩ := x
  simp only at c0 c1 HS1 HOh HOd hx
  by_cases h0 : xc = 0
  · subst h0
    go_wp2
    have d1 : X.drew.cell? ⟨B, 1, none⟩ = some (.int .i64 xi) := c1
    have S2 := Sep.swap (Sep.later HS1.out (belowN (Below.refl _ _) 1))
    have HS2 : Hid (Sep w0 X.drew (dkP g b m L :: bxP B #[.int .i64 0, .int .i64 xi] 31 :: rfP h m vr L :: l)) := S2
    clear S2
    refine wp_region_ord (S := fun u => u.cell? ⟨B, 1, none⟩ = some (.int .i64 xi)) [(0, true), (1, true), (2, true), (4, true), (5, true), (6, true), (3, false), (7, false), (8, true), (9, true)] (by kernel_rfl) rfl (by kernel_rfl) (fun d _ _ _ _ h => by cases d <;> exact h) d1 ?_
    simp only [inOrd, List.getElem?_cons_zero, List.getElem?_cons_succ]
    refine wpOrd_yield (v := .pointer (some ⟨g, 0, none⟩)) rfl (fun u _ => exec_mv rfl rfl) ?_
    simp only [Act.put, List.setIfInBounds_toArray, List.set_cons_succ, List.set_cons_zero]
    refine wpOrd_yield (v := .pointer (some ⟨B, 1, none⟩)) rfl (fun u _ => by go_simp) ?_
    simp only [Act.put, List.setIfInBounds_toArray, List.set_cons_succ, List.set_cons_zero]
    refine wpOrd_yield (v := .int .i64 xi) rfl (fun u hu => by have := hu; go_simp) ?_
    simp only [Act.put, List.setIfInBounds_toArray, List.set_cons_succ, List.set_cons_zero]
    refine wpOrd_yield (v := .pointer (some ⟨h, 0, none⟩)) rfl (fun u _ => exec_mv rfl rfl) ?_
    simp only [Act.put, List.setIfInBounds_toArray, List.set_cons_succ, List.set_cons_zero]
    refine wpOrd_yield (v := .pointer (some ⟨B, 1, none⟩)) rfl (fun u _ => by go_simp) ?_
    simp only [Act.put, List.setIfInBounds_toArray, List.set_cons_succ, List.set_cons_zero]
    refine wpOrd_yield (v := .int .i64 xi) rfl (fun u hu => by have := hu; go_simp) ?_
    simp only [Act.put, List.setIfInBounds_toArray, List.set_cons_succ, List.set_cons_zero]
    refine wpOrd_call rfl 13 _ _ rfl Try.call13 [.pointer (some ⟨g, 0, none⟩), .int .i64 xi] rfl ?_
    refine (HS2.out.hold HO.out (by omega) xi hx).mono ?_
    rintro e Y1 ⟨rfl, y1⟩
    have y2 := Sep.third y1
    refine ⟨_, rfl, Joins.cell_of_block (y2.sayOf (q := bxP B #[.int .i64 0, .int .i64 xi] 31) (by simp)) 1, ?_⟩
    simp only [Act.put, List.setIfInBounds_toArray, List.set_cons_succ, List.set_cons_zero]
    refine wpOrd_call rfl 20 _ _ rfl Try.call20 [.pointer (some ⟨h, 0, none⟩), .int .i64 xi] rfl ?_
    refine (y2.rhold HO.out (by omega) xi).mono ?_
    rintro e Y2 ⟨rfl, v2, y3⟩
    refine ⟨_, rfl, Joins.cell_of_block (y3.sayOf (q := bxP B #[.int .i64 0, .int .i64 xi] 31) (by simp)) 1, ?_⟩
    simp only [Act.put, List.setIfInBounds_toArray, List.set_cons_succ, List.set_cons_zero]
    have HP : Hid (Pair2 w0 Y2 g b h m (c + 1) l) := ⟨_, v2, HOh.out, (Sep.third y3).drop.swap⟩
    have hee : (holdE m L xi == holdE m L xi) = true := by simp
    clear y1 y2 y3 HS2
    generalize holdE m L xi = hE at *
    refine wpOrd_yield (v := .bool true) rfl (fun u _ => by have := hee; go_simp) ?_
    simp only [Act.put, List.setIfInBounds_toArray, List.set_cons_succ, List.set_cons_zero]
    refine wpOrd_yield (v := .bool true) rfl (fun u _ => by go_simp) ?_
    simp only [Act.put, List.setIfInBounds_toArray, List.set_cons_succ, List.set_cons_zero]
    refine wpOrd_nil ?_
    go_wp2
    go_ret
    exact ⟨rfl, HP.out⟩
  have e0 : (xc == 0) = false := by simpa using h0
  by_cases h1 : xc = 1
  · subst h1
    have S2 := Sep.swap HS1.out
    have HS2 : Hid (Sep w0 X (dkP g b m L :: bxP B #[.int .i64 1, .int .i64 xi] 31 :: rfP h m vr L :: l)) := S2
    clear S2 h0 e0
    go_wp2_with (first | (go_at_call 15; fail))
    refine (HS2.out.dropD HO.out (by omega) xi hx).mono ?_
    rintro e Y1 ⟨rfl, y1⟩
    have d1 : Y1.cell? ⟨B, 1, none⟩ = some (.int .i64 xi) := Joins.cell_of_block (y1.sayOf (q := bxP B #[.int .i64 1, .int .i64 xi] 31) (by simp)) 1
    have HS3 := (show Hid _ from Sep.third y1)
    clear y1 HS2
    go_wp2_with (first | (go_at_call 21; fail))
    refine (HS3.out.rdrop HO.out (by omega) xi).mono ?_
    rintro e Y2 ⟨rfl, v2, y3⟩
    have HP : Hid (Pair2 w0 Y2 g b h m (c + 1) l) := ⟨_, v2, HOd.out, (Sep.third y3).drop.swap⟩
    clear y3 HS3
    generalize dropE L xi = dE at *
    generalize dropB L xi = dB at *
    have q1 : (dB == dB) = true := by simp
    have q2 : (dE == dE) = true := by simp
    go_wp2
    go_ret
    exact ⟨rfl, HP.out⟩
  have e1 : (xc == 1) = false := by simpa using h1
  by_cases h2 : xc = 2
  · subst h2
    go_wp2
    have d1 : X.drew.cell? ⟨B, 1, none⟩ = some (.int .i64 xi) := c1
    have S2 := Sep.later HS1.out (belowN (Below.refl _ _) 1)
    have HS2 : Hid (Sep w0 X.drew (bxP B #[.int .i64 2, .int .i64 xi] 31 :: dkP g b m L :: rfP h m vr L :: l)) := S2
    have k1 := holds_ok (HS2.out.sayOf (q := dkP g b m L) (by simp)) xi hx
    have k2 := rholds_ok (HS2.out.sayOf (q := rfP h m vr L) (by simp)) HO.out.ris hlen xi
    have HP : Hid (Pair2 w0 X.drew g b h m (c + 1) l) := ⟨L, vr, HO.out.mono (by omega), HS2.out.drop⟩
    clear S2 HS2
    have hee : ((getH L xi).getD 0 == (getH L xi).getD 0) = true := by simp
    generalize (getH L xi).getD 0 = hE at *
    refine wp_region_ord (S := fun u => u.cell? ⟨B, 1, none⟩ = some (.int .i64 xi)) [(0, true), (1, true), (2, true), (4, true), (5, true), (6, true), (3, false), (7, false), (8, true), (9, true)] (by kernel_rfl) rfl (by kernel_rfl) (fun d _ _ _ _ h => by cases d <;> exact h) d1 ?_
    simp only [inOrd, List.getElem?_cons_zero, List.getElem?_cons_succ]
    generalize X.drew = Y at *
    refine wpOrd_yield (v := .pointer (some ⟨g, 0, none⟩)) rfl (fun u _ => exec_mv rfl rfl) ?_
    simp only [Act.put, List.setIfInBounds_toArray, List.set_cons_succ, List.set_cons_zero]
    refine wpOrd_yield (v := .pointer (some ⟨B, 1, none⟩)) rfl (fun u _ => by go_simp) ?_
    simp only [Act.put, List.setIfInBounds_toArray, List.set_cons_succ, List.set_cons_zero]
    refine wpOrd_yield (v := .int .i64 xi) rfl (fun u hu => by have := hu; go_simp) ?_
    simp only [Act.put, List.setIfInBounds_toArray, List.set_cons_succ, List.set_cons_zero]
    refine wpOrd_yield (v := .pointer (some ⟨h, 0, none⟩)) rfl (fun u _ => exec_mv rfl rfl) ?_
    simp only [Act.put, List.setIfInBounds_toArray, List.set_cons_succ, List.set_cons_zero]
    refine wpOrd_yield (v := .pointer (some ⟨B, 1, none⟩)) rfl (fun u _ => by go_simp) ?_
    simp only [Act.put, List.setIfInBounds_toArray, List.set_cons_succ, List.set_cons_zero]
    refine wpOrd_yield (v := .int .i64 xi) rfl (fun u hu => by have := hu; go_simp) ?_
    simp only [Act.put, List.setIfInBounds_toArray, List.set_cons_succ, List.set_cons_zero]
    refine wpOrd_call rfl 16 _ _ rfl Try.call16 [.pointer (some ⟨g, 0, none⟩), .int .i64 xi] rfl ?_
    refine k1.mono ?_
    rintro e Y1 ⟨rfl, hY1⟩
    subst hY1
    refine ⟨_, rfl, d1, ?_⟩
    simp only [Act.put, List.setIfInBounds_toArray, List.set_cons_succ, List.set_cons_zero]
    refine wpOrd_call rfl 22 _ _ rfl Try.call22 [.pointer (some ⟨h, 0, none⟩), .int .i64 xi] rfl ?_
    refine k2.mono ?_
    rintro e Y2 ⟨rfl, hY2⟩
    subst hY2
    refine ⟨_, rfl, d1, ?_⟩
    simp only [Act.put, List.setIfInBounds_toArray, List.set_cons_succ, List.set_cons_zero]
    refine wpOrd_yield (v := .bool true) rfl (fun u _ => by have := hee; go_simp) ?_
    simp only [Act.put, List.setIfInBounds_toArray, List.set_cons_succ, List.set_cons_zero]
    refine wpOrd_yield (v := .bool true) rfl (fun u _ => by go_simp) ?_
    simp only [Act.put, List.setIfInBounds_toArray, List.set_cons_succ, List.set_cons_zero]
    refine wpOrd_nil ?_
    clear k1 k2
    go_wp2
    go_ret
    exact ⟨rfl, HP.out⟩
  have e2 : (xc == 2) = false := by simpa using h2
  by_cases h3 : xc = 3
  · subst h3
    obtain ⟨s, hs⟩ : ∃ s : Nat, xi % 9 = (s : Int) := ⟨(xi % 9).toNat, by omega⟩
    have hs9 : s ≤ 100 := by omega
    have hpk := pick_ok xi 9 (by omega)
    rw [hs] at hpk
    have S2 := Sep.perm HS1.out (List.perm_append_comm (l₁ := [bxP B #[.int .i64 3, .int .i64 xi] 31]) (l₂ := [dkP g b m L, rfP h m vr L]) |>.append_right l)
    have hwk := walk_ok S2 HO.out (by omega) s hs9
    have HOs : Hid (Dok m (holdL m L ((s : Int) + 1)) (c + 1)) := HO.out.hold (by omega)
    clear hs S2
    go_wp2_with (first | (go_at_call 12; refine (hpk _).mono ?_; rintro e W ⟨rfl, hW⟩; obtain rfl := hW.symm) | (go_at_call 11; fail))
    refine hwk.mono ?_
    rintro e Y ⟨rfl, v2, y3⟩
    have HP : Hid (Pair2 w0 Y g b h m (c + 1) l) := ⟨_, v2, HOs.out, (Sep.third y3).drop⟩
    clear hwk y3 hpk
    go_wp2
    go_ret
    exact ⟨rfl, HP.out⟩
  have e3 : (xc == 3) = false := by simpa using h3
  have k1 := len_ok (HS1.out.sayOf (q := dkP g b m L) (by simp))
  have k2 := rlen_ok (HS1.out.sayOf (q := rfP h m vr L) (by simp))
  have S2 := Sep.swap HS1.out
  have k3 := Sep.full S2
  have ell : ((L.length : Int) == (L.length : Int)) = true := by simp
  generalize L.length = N at *
  clear S2 h0 h1 h2 h3
  go_wp2_with (first | (go_at_call 17; refine k1.mono ?_; rintro e W ⟨rfl, hW⟩; obtain rfl := hW.symm) | (go_at_call 23; refine k2.mono ?_; rintro e W ⟨rfl, hW⟩; obtain rfl := hW.symm) | (go_at_call 14; fail))
  refine k3.mono ?_
  rintro e Y1 ⟨rfl, y1⟩
  have k4 := Sep.rfull (Sep.third y1) HO.out
  clear k1 k2 k3 y1
  generalize hfb : fullB m L = fb at *
  have eff : (fb == fb) = true := by simp
  go_wp2_with (first | (go_at_call 24; fail))
  refine k4.mono ?_
  rintro e Y2 ⟨rfl, y2⟩
  have HP : Hid (Pair2 w0 Y2 g b h m (c + 1) l) := ⟨_, vr, HO.out.mono (by omega), (Sep.third y2).drop.swap⟩
  clear k4 y2
  go_wp2
  go_ret
  exact ⟨rfl, HP.out⟩
end Go.Proofs.Ytpghalekcgnefaa
