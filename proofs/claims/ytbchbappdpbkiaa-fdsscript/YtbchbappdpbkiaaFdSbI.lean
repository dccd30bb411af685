/- FdsScript's walk over a table of ints: what All hands back is kept with what it must go over, and gone over; tables of at most a million rows. -/
import Derived.Test.YtbchbappdpbkiaaFdSaI
import Derived.Test.YtbchbappdpbkiaaFdcI
import Derived.Test.YtbchbappdpbkiaaFdfI
import Derived.Test.YtbchbappdpbkiaaFdL1
import Derived.Test.YtbchbappdpbkiaaFdS7
namespace Go.Proofs.Ytbchbappdpbkiaa
open Go.RowKit Go.Maps
def e0I (x : ItI) : List Value := [fnI x]
def e1I (x : ItI) : List Value := [vFI x]
def e2I (x : ItI) : List Value := [vVI x]
abbrev k0I (v : Value) (L : List ItI) : Part := olP v 70 1 L.length (L.flatMap e0I)
abbrev k1I (v : Value) (L : List ItI) : Part := olP v 65 1 L.length (L.flatMap e1I)
abbrev k2I (v : Value) (L : List ItI) : Part := olP v 65 1 L.length (L.flatMap e2I)
def x1I (q : Nat) (v : Value) (R : List (Option Int)) : Part := ⟨fun k => k = q ∨ v.ownBlock = some k, fun W => W.heap[q]? = some (.cells #[v] 43) ∧ W.ownsRow 0 92 2 v R.length (R.flatMap enI)⟩
theorem x1I_good (q : Nat) (v : Value) (R : List (Option Int)) : (x1I q v R).Good := fun _ _ hs _ h => ⟨(h q (.inl rfl)).trans hs.1, own_by hs.2 fun k hk => h k (.inr hk)⟩
section
variable {w W : World} {l : List Part} {gA gP leA gK : Nat} {m : Int} {vA vF vV va vb vc y3 y4 y5 : Value} {R : List (Option Int)} {L : List ItI}
variable (a0 x : Int) (fd : Int)
set_option maxRecDepth 20000 in
set_option maxHeartbeats 4000000 in
theorem actI_all (h : Sep w W (tpI gA vA leA m R :: rfL gP m vF vV R (bxP gK #[va, vb, vc, y3, y4, y5] 35 :: k0I va L :: k1I vb L :: k2I vc L :: itsI L :: l))) (hl : R.length ≤ 900000) (hL : L.length ≤ 900000) (hLR : ∀ y ∈ L, y.R.length ≤ 900000) :
    Calls Try.prog 11 #[.pointer (some ⟨gK, 0, none⟩), .pointer (some ⟨gA, 0, none⟩), .pointer (some ⟨gP, 0, none⟩), .agg #[.int .i64 a0, .int .i64 5, .int .i64 fd, .int .i64 x]] W fun e W' => e = .returned (.bool true) ∧ ∃ va' vb' vc' L', L'.length = L.length + 1 ∧ (∀ y ∈ L', y.R.length ≤ 900000) ∧ Sep w W' (tpI gA vA leA m R :: rfL gP m vF vV R (bxP gK #[va', vb', vc', y3, y4, y5] 35 :: k0I va' L' :: k1I vb' L' :: k2I vc' L' :: itsI L' :: l)) := by
  have hcl := cnt_le R
  have HS := (show Hid _ from h.box #[.int .i64 a0, .int .i64 5, .int .i64 fd, .int .i64 x] 38)
  have hb : (W.alloc (.cells #[.int .i64 a0, .int .i64 5, .int .i64 fd, .int .i64 x] 38)).heap[W.heap.size]? = some (.cells #[.int .i64 a0, .int .i64 5, .int .i64 fd, .int .i64 x] 38) := heap_alloc_new _ _
  have b1 : (W.alloc (.cells #[.int .i64 a0, .int .i64 5, .int .i64 fd, .int .i64 x] 38)).cell? ⟨W.heap.size, 1, none⟩ = some (.int .i64 5) := Joins.cell_of_block hb 1
  have HLR := (show Hid _ from hLR)
  clear h hb hLR
  go_enter Try.func11, Try.ntmps11
  go_wp2_with (first | (go_at_call 37; fail))
  refine (all_okI HS.out.swap.head (by omega)).mono ?_
  rintro e W1 ⟨qi, v', rfl, hq1, hq2, hq3, hq4⟩
  have HS1 : Hid (Sep w W1 (x1I qi v' R :: bxP W.heap.size #[.int .i64 a0, .int .i64 5, .int .i64 fd, .int .i64 x] 38 :: tpI gA vA leA m R :: rfL gP m vF vV R (bxP gK #[va, vb, vc, y3, y4, y5] 35 :: k0I va L :: k1I vb L :: k2I vc L :: itsI L :: l))) := by
    refine HS.out.add hq4 (x1I_good _ _ _) ⟨hq1, World.ownsRow.mono hq2 (Nat.zero_le _)⟩ ?_
    rintro k (rfl | qk)
    · exact ⟨hq3, (Array.getElem?_eq_some_iff.1 hq1).1⟩
    · exact hq2.lt k qk
  clear HS hq1 hq2 hq3 hq4 b1
  have c1 : W1.cell? ⟨gP, 1, none⟩ = some vF := Joins.cell_of_block (HS1.out.sayOf (q := bxP gP #[.int .i64 m, vF, vV] 67) (by simp)) 1
  have hF1 : W1.ownsRow 0 3 1 vF (fsL R).length ((fsL R).flatMap inE) := HS1.out.sayOf (q := iP vF (fsL R)) (by simp)
  have g1 := copy_ok (fsL R) vF W1 (by rw [fsL_len]; omega) hF1
  clear hF1
  go_wp2_with (first | (go_at_call 38; fail))
  refine g1.mono ?_
  rintro e W2 ⟨vF2, rfl, sc1⟩
  have HS2 := (show Hid _ from HS1.out.plus sc1)
  clear HS1 sc1 g1 c1
  have c2 : W2.cell? ⟨gP, 2, none⟩ = some vV := Joins.cell_of_block (HS2.out.sayOf (q := bxP gP #[.int .i64 m, vF, vV] 67) (by simp)) 2
  have hV1 : W2.ownsRow 0 3 1 vV (vsL R).length ((vsL R).flatMap inE) := HS2.out.sayOf (q := iP vV (vsL R)) (by simp)
  have g2 := copy_ok (vsL R) vV W2 (by rw [vsL_len]; omega) hV1
  clear hV1
  go_wp2_with (first | (go_at_call 38; fail))
  refine g2.mono ?_
  rintro e W3 ⟨vV2, rfl, sc2⟩
  have HS3 := (show Hid _ from HS2.out.plus sc2)
  clear HS2 sc2 g2 c2
  obtain ⟨pF, cF, hvF, hd1⟩ := iP_form HS3.out.swap.head
  obtain ⟨pV, cV, hvV, hd2⟩ := iP_form HS3.out.head
  clear hd1 hd2
  rw [fsL_len] at hvF
  rw [show (vsL R).length = cnt R from vsL_len _] at hvV
  obtain ⟨it, hit⟩ : ∃ it : ItI, it = ⟨qi, v', pF, cF, pV, cV, R⟩ := ⟨_, rfl⟩
  have eF : vFI it = .slice pF (cnt R) cF := by rw [hit]; rfl
  have eV : vVI it = .slice pV (cnt R) cV := by rw [hit]; rfl
  have eN : fnI it = .func (.func 58) #[] #[.pointer (some ⟨qi, 0, none⟩)] := by rw [hit]; rfl
  have eR : it.R = R := by rw [hit]
  subst hvF
  subst hvV
  have HS4 : Hid (Sep w W3 (bxP gK #[va, vb, vc, y3, y4, y5] 35 :: k0I va L :: k1I vb L :: k2I vc L :: itsI L :: itI it :: bxP W.heap.size #[.int .i64 a0, .int .i64 5, .int .i64 fd, .int .i64 x] 38 :: tpI gA vA leA m R :: bxP gP #[.int .i64 m, vF, vV] 67 :: iP vF (fsL R) :: iP vV (vsL R) :: l)) := by
    have s1 : Sep w W3 (itI it :: _) := Sep.joinN (A := [iP _ (vsL R), iP _ (fsL R), x1I qi v' R]) HS3.out (itI_good it) (by
      have q1 := HS3.out.head
      have q2 := HS3.out.swap.head
      have q3 := HS3.out.third.head
      subst hit
      exact ⟨q3.1, q3.2, q2, q1⟩) (fun k hk => by
      subst hit
      rcases hk with hk | hk | hk | hk
      · exact ⟨x1I qi v' R, List.mem_cons_of_mem _ (List.mem_cons_of_mem _ List.mem_cons_self), .inl hk⟩
      · exact ⟨x1I qi v' R, List.mem_cons_of_mem _ (List.mem_cons_of_mem _ List.mem_cons_self), .inr hk⟩
      · exact ⟨_, List.mem_cons_of_mem _ List.mem_cons_self, hk⟩
      · exact ⟨_, List.mem_cons_self, hk⟩)
    exact s1.perm (pAB [itI it, _, _, _, _, _] [_, _, _, _, _] l)
  have hitR : it.R.length ≤ 900000 := by rw [eR]; exact hl
  clear HS3 hit eR
  have l1 : ∀ y : ItI, (e0I y).length = 1 := fun _ => rfl
  have l2 : ∀ y : ItI, (e1I y).length = 1 := fun _ => rfl
  have l3 : ∀ y : ItI, (e2I y).length = 1 := fun _ => rfl
  have o1 : ∀ y : ItI, ∀ u ∈ e0I y, u.oneCell' = true := fun y u hu => by simp [e0I] at hu; subst hu; rfl
  have o2 : ∀ y : ItI, ∀ u ∈ e1I y, u.oneCell' = true := fun y u hu => by simp [e1I] at hu; subst hu; rfl
  have o3 : ∀ y : ItI, ∀ u ∈ e2I y, u.oneCell' = true := fun y u hu => by simp [e2I] at hu; subst hu; rfl
  obtain ⟨p0, c0, W4, r0, s0⟩ := sep_pushX l1 o1 Try.underlying30 info70 rfl (by omega) HS4.out.swap (by omega) it
  have s5 := Sep.setBox s0.swap 0 (.slice p0 (L ++ [it]).length c0)
  obtain ⟨p1, c1, W5, r1, s6⟩ := sep_pushX l2 o2 Try.underlying31 info65 rfl (by omega) s5.third (by omega) it
  have s7 := Sep.setBox s6.back 1 (.slice p1 (L ++ [it]).length c1)
  obtain ⟨p2, c2, W6, r2, s8⟩ := sep_pushX l3 o3 Try.underlying31 info65 rfl (by omega) s7.front4 (by omega) it
  have s9 := Sep.setBox s8.back4 2 (.slice p2 (L ++ [it]).length c2)
  have HS9 : Hid (Sep w (W6.setCell ⟨gK, 2, none⟩ (.slice p2 (L ++ [it]).length c2)) (bxP gK #[(.slice p0 (L ++ [it]).length c0), (.slice p1 (L ++ [it]).length c1), (.slice p2 (L ++ [it]).length c2), y3, y4, y5] 35 :: k0I (.slice p0 (L ++ [it]).length c0) (L ++ [it]) :: k1I (.slice p1 (L ++ [it]).length c1) (L ++ [it]) :: k2I (.slice p2 (L ++ [it]).length c2) (L ++ [it]) :: itsI (L ++ [it]) :: bxP W.heap.size #[.int .i64 a0, .int .i64 5, .int .i64 fd, .int .i64 x] 38 :: tpI gA vA leA m R :: rfL gP m vF vV R l)) := by
    have t1 := s9.perm (pAB [_, _, _, _] [itsI L, itI it] _)
    exact (sep_itemI t1).perm (pAB [_] [_, _, _, _] _)
  have hk0 : W3.heap[gK]? = some (.cells #[va, vb, vc, y3, y4, y5] 35) := HS4.out.head
  have f0 : W3.cell? ⟨gK, 0, none⟩ = some va := Joins.cell_of_block hk0 0
  have hk1 : W4.heap[gK]? = some (.cells #[va, vb, vc, y3, y4, y5] 35) := s0.swap.head
  have f1 : W4.cell? ⟨gK, 0, none⟩ = some va := Joins.cell_of_block hk1 0
  have z1 : W4.frozen? ⟨gK, 0, none⟩ = false := frozen_row hk1 0
  have hk2 : (W4.setCell ⟨gK, 0, none⟩ (.slice p0 (L ++ [it]).length c0)).heap[gK]? = some (.cells #[(.slice p0 (L ++ [it]).length c0), vb, vc, y3, y4, y5] 35) := s5.head
  have f2 : (W4.setCell ⟨gK, 0, none⟩ (.slice p0 (L ++ [it]).length c0)).cell? ⟨gK, 1, none⟩ = some vb := Joins.cell_of_block hk2 1
  have hk3 : W5.heap[gK]? = some (.cells #[(.slice p0 (L ++ [it]).length c0), vb, vc, y3, y4, y5] 35) := s6.back.head
  have f3 : W5.cell? ⟨gK, 1, none⟩ = some vb := Joins.cell_of_block hk3 1
  have z3 : W5.frozen? ⟨gK, 1, none⟩ = false := frozen_row hk3 1
  have hk4 : (W5.setCell ⟨gK, 1, none⟩ (.slice p1 (L ++ [it]).length c1)).heap[gK]? = some (.cells #[(.slice p0 (L ++ [it]).length c0), (.slice p1 (L ++ [it]).length c1), vc, y3, y4, y5] 35) := s7.head
  have f4 : (W5.setCell ⟨gK, 1, none⟩ (.slice p1 (L ++ [it]).length c1)).cell? ⟨gK, 2, none⟩ = some vc := Joins.cell_of_block hk4 2
  have hk5 : W6.heap[gK]? = some (.cells #[(.slice p0 (L ++ [it]).length c0), (.slice p1 (L ++ [it]).length c1), vc, y3, y4, y5] 35) := s8.back4.head
  have f5 : W6.cell? ⟨gK, 2, none⟩ = some vc := Joins.cell_of_block hk5 2
  have z5 : W6.frozen? ⟨gK, 2, none⟩ = false := frozen_row hk5 2
  have h7 : (W6.setCell ⟨gK, 2, none⟩ (.slice p2 (L ++ [it]).length c2)).cell? ⟨W.heap.size, 3, none⟩ = some (.int .i64 x) := Joins.cell_of_block (HS9.out.sayOf (q := bxP W.heap.size #[.int .i64 a0, .int .i64 5, .int .i64 fd, .int .i64 x] 38) (by simp)) 3
  have hwk := walk_itI ((HS9.out.sayOf (q := itsI (L ++ [it])) (by simp)) it (by simp)) hitR x
  have hz1 : (W4.setCell ⟨gK, 0, none⟩ (.slice p0 (L ++ [it]).length c0)).heap.size = W4.heap.size := by simp
  have hz2 : (W5.setCell ⟨gK, 1, none⟩ (.slice p1 (L ++ [it]).length c1)).heap.size = W5.heap.size := by simp
  rw [hz1] at r1
  rw [hz2] at r2
  clear hz1 hz2
  unfold e0I at r0
  unfold e1I at r1
  unfold e2I at r2
  rw [eN] at r0
  rw [eF] at r1
  rw [eV] at r2
  rw [eN, eF, eV] at hwk
  have HLL : Hid ((L ++ [it]).length = L.length + 1 ∧ ∀ y ∈ L ++ [it], y.R.length ≤ 900000) := ⟨by simp, fun y hy => by
    rcases List.mem_append.1 hy with hy | hy
    · exact HLR.out y hy
    · rw [List.mem_singleton.1 hy]; exact hitR⟩
  clear s0 s5 s6 s7 s8 s9 HS4 hk0 hk1 hk2 hk3 hk4 hk5 HLR l1 l2 l3 o1 o2 o3 hitR eF eV eN
  generalize hNL : (L ++ [it]).length = NL at *
  have HNL := (show Hid _ from hNL)
  clear hNL
  generalize L ++ [it] = L' at *
  generalize cnt R = n at *
  have Q0 := (show Hid _ from r0)
  have Q1 := (show Hid _ from r1)
  have Q2 := (show Hid _ from r2)
  have QW := (show Hid _ from hwk)
  clear r0 r1 r2 hwk
  go_wp2_with (first | (at_builtin; refine wpList_app rfl (.tmp 145) (.tmp 147) rfl rfl rfl Q0.out ?_) | (at_builtin; refine wpList_app rfl (.tmp 155) (.tmp 157) rfl rfl rfl Q1.out ?_) | (at_builtin; refine wpList_app rfl (.tmp 165) (.tmp 167) rfl rfl rfl Q2.out ?_) | (go_at_call 39; fail))
  refine (show Calls _ _ _ _ _ from QW.out).mono ?_
  rintro e W9 ⟨rfl, hb9⟩
  have HT := (show Hid _ from ((HS9.out.later hb9).perm (pAB [_, _, _, _, _] [_, _, _, _, _] l)).drop)
  clear hb9 HS9 Q0 Q1 Q2 QW f0 f1 f2 f3 f4 f5 z1 z3 z5 h7
  go_wp2
  go_ret
  exact ⟨rfl, _, _, _, L', HNL.out.trans HLL.out.1, HLL.out.2, HT.out⟩
end
end Go.Proofs.Ytbchbappdpbkiaa
