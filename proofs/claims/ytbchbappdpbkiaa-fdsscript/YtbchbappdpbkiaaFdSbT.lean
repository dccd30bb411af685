/- FdsScript's walk over a table of texts: what All hands back is kept with what it must go over, and gone over; tables of at most a million rows. -/
import Derived.Test.YtbchbappdpbkiaaFdSaT
import Derived.Test.YtbchbappdpbkiaaFdcT
import Derived.Test.YtbchbappdpbkiaaFdfT
import Derived.Test.YtbchbappdpbkiaaFdL1
import Derived.Test.YtbchbappdpbkiaaFdS8
namespace Go.Proofs.Ytbchbappdpbkiaa
open Go.RowKit Go.Maps
def e0T (x : ItT) : List Value := [fnT x]
def e1T (x : ItT) : List Value := [vFT x]
def e2T (x : ItT) : List Value := [vVT x]
abbrev k0T (v : Value) (L : List ItT) : Part := olP v 80 1 L.length (L.flatMap e0T)
abbrev k1T (v : Value) (L : List ItT) : Part := olP v 65 1 L.length (L.flatMap e1T)
abbrev k2T (v : Value) (L : List ItT) : Part := olP v 82 1 L.length (L.flatMap e2T)
def x1T (q : Nat) (v : Value) (R : List (Option Int)) : Part := ⟨fun k => k = q ∨ v.ownBlock = some k, fun W => W.heap[q]? = some (.cells #[v] 62) ∧ W.ownsRow 0 96 2 v (mapR tx R).length ((mapR tx R).flatMap enT)⟩
theorem x1T_good (q : Nat) (v : Value) (R : List (Option Int)) : (x1T q v R).Good := fun _ _ hs _ h => ⟨(h q (.inl rfl)).trans hs.1, own_by hs.2 fun k hk => h k (.inr hk)⟩
theorem sP_form {W : World} {v : Value} {L : List ByteArray} (h : (sP v L).say W) : ∃ p c, v = .slice p L.length c ∧ True := by
  rcases own_form (show W.ownsRow 0 9 1 v L.length (L.flatMap stE) from h) with ⟨rfl, h0⟩ | ⟨b, c, rfl, _⟩
  · exact ⟨none, 0, by rw [h0], trivial⟩
  · exact ⟨_, c, rfl, trivial⟩
section
variable {w W : World} {l : List Part} {gA gP leA gK : Nat} {m : Int} {vA vF vV va vb vc y0 y1 y2 : Value} {R : List (Option Int)} {L : List ItT}
variable (a0 x : Int) (fd : Int)
set_option maxRecDepth 20000 in
set_option maxHeartbeats 4000000 in
theorem actT_all (h : Sep w W (tpT gA vA leA m (mapR tx R) :: rfL gP m vF vV R (bxP gK #[y0, y1, y2, va, vb, vc] 35 :: k0T va L :: k1T vb L :: k2T vc L :: itsT L :: l))) (hl : R.length ≤ 900000) (hL : L.length ≤ 900000) (hbd : ∀ y ∈ vsL R, -9223372036854775808 ≤ y ∧ y ≤ 9223372036854775807) (hLR : ∀ y ∈ L, y.R.length ≤ 900000) :
    Calls Try.prog 12 #[.pointer (some ⟨gK, 0, none⟩), .pointer (some ⟨gA, 0, none⟩), .pointer (some ⟨gP, 0, none⟩), .agg #[.int .i64 a0, .int .i64 5, .int .i64 fd, .int .i64 x]] W fun e W' => e = .returned (.bool true) ∧ ∃ va' vb' vc' L', L'.length = L.length + 1 ∧ (∀ y ∈ L', y.R.length ≤ 900000) ∧ Sep w W' (tpT gA vA leA m (mapR tx R) :: rfL gP m vF vV R (bxP gK #[y0, y1, y2, va', vb', vc'] 35 :: k0T va' L' :: k1T vb' L' :: k2T vc' L' :: itsT L' :: l)) := by
  have hcl := cnt_le R
  have HS := (show Hid _ from h.box #[.int .i64 a0, .int .i64 5, .int .i64 fd, .int .i64 x] 38)
  have hb : (W.alloc (.cells #[.int .i64 a0, .int .i64 5, .int .i64 fd, .int .i64 x] 38)).heap[W.heap.size]? = some (.cells #[.int .i64 a0, .int .i64 5, .int .i64 fd, .int .i64 x] 38) := heap_alloc_new _ _
  have b1 : (W.alloc (.cells #[.int .i64 a0, .int .i64 5, .int .i64 fd, .int .i64 x] 38)).cell? ⟨W.heap.size, 1, none⟩ = some (.int .i64 5) := Joins.cell_of_block hb 1
  have HLR := (show Hid _ from hLR)
  clear h hb hLR
  go_enter Try.func12, Try.ntmps12
  go_wp2_with (first | (go_at_call 47; fail))
  refine (all_okT HS.out.swap.head (by rw [mapR_len]; omega)).mono ?_
  rintro e W1 ⟨qi, v', rfl, hq1, hq2, hq3, hq4⟩
  have HS1 : Hid (Sep w W1 (x1T qi v' R :: bxP W.heap.size #[.int .i64 a0, .int .i64 5, .int .i64 fd, .int .i64 x] 38 :: tpT gA vA leA m (mapR tx R) :: rfL gP m vF vV R (bxP gK #[y0, y1, y2, va, vb, vc] 35 :: k0T va L :: k1T vb L :: k2T vc L :: itsT L :: l))) := by
    refine HS.out.add hq4 (x1T_good _ _ _) ⟨hq1, World.ownsRow.mono hq2 (Nat.zero_le _)⟩ ?_
    rintro k (rfl | qk)
    · exact ⟨hq3, (Array.getElem?_eq_some_iff.1 hq1).1⟩
    · exact hq2.lt k qk
  clear HS hq1 hq2 hq3 hq4 b1
  have c1 : W1.cell? ⟨gP, 1, none⟩ = some vF := Joins.cell_of_block (HS1.out.sayOf (q := bxP gP #[.int .i64 m, vF, vV] 67) (by simp)) 1
  have hF1 : W1.ownsRow 0 3 1 vF (fsL R).length ((fsL R).flatMap inE) := HS1.out.sayOf (q := iP vF (fsL R)) (by simp)
  have g1 := copy_ok (fsL R) vF W1 (by rw [fsL_len]; omega) hF1
  clear hF1
  go_wp2_with (first | (go_at_call 38; fail))
  refine g1.mono ?_
  rintro e W2 ⟨vF2, rfl, sc1⟩
  have HS2 := (show Hid _ from HS1.out.plus sc1)
  clear HS1 sc1 g1 c1
  have c2 : W2.cell? ⟨gP, 2, none⟩ = some vV := Joins.cell_of_block (HS2.out.sayOf (q := bxP gP #[.int .i64 m, vF, vV] 67) (by simp)) 2
  obtain ⟨pW, cW, hvw, hfw⟩ := iP_form (HS2.out.sayOf (q := iP vV (vsL R)) (by simp))
  have hIA : IntsAt W2 pW (vsL R) := fun k y hy => by
    obtain ⟨b, q1, q2, q3, _⟩ := hfw k y hy
    exact ⟨b, q1, q2, q3⟩
  have g2 := texts_ok (vsL R) pW cW W2 (by rw [vsL_len]; omega) hIA hbd
  rw [← hvw] at g2
  clear hIA hfw hbd hvw
  go_wp2_with (first | (go_at_call 48; fail))
  refine g2.mono ?_
  rintro e W3 ⟨vV2, rfl, sc2⟩
  have HS3 := (show Hid _ from HS2.out.plus sc2)
  clear HS2 sc2 g2 c2
  obtain ⟨pF, cF, hvF, hd1⟩ := iP_form HS3.out.swap.head
  obtain ⟨pV, cV, hvV, hd2⟩ := sP_form HS3.out.head
  clear hd1 hd2
  rw [fsL_len] at hvF
  rw [show ((vsL R).map tx).length = cnt R from (by rw [List.length_map]; exact vsL_len _)] at hvV
  obtain ⟨it, hit⟩ : ∃ it : ItT, it = ⟨qi, v', pF, cF, pV, cV, R⟩ := ⟨_, rfl⟩
  have eF : vFT it = .slice pF (cnt R) cF := by rw [hit]; rfl
  have eV : vVT it = .slice pV (cnt R) cV := by rw [hit]; rfl
  have eN : fnT it = .func (.func 63) #[] #[.pointer (some ⟨qi, 0, none⟩)] := by rw [hit]; rfl
  have eR : it.R = R := by rw [hit]
  subst hvF
  subst hvV
  have HS4 : Hid (Sep w W3 (bxP gK #[y0, y1, y2, va, vb, vc] 35 :: k0T va L :: k1T vb L :: k2T vc L :: itsT L :: itT it :: bxP W.heap.size #[.int .i64 a0, .int .i64 5, .int .i64 fd, .int .i64 x] 38 :: tpT gA vA leA m (mapR tx R) :: bxP gP #[.int .i64 m, vF, vV] 67 :: iP vF (fsL R) :: iP vV (vsL R) :: l)) := by
    have s1 : Sep w W3 (itT it :: _) := Sep.joinN (A := [sP _ ((vsL R).map tx), iP _ (fsL R), x1T qi v' R]) HS3.out (itT_good it) (by
      have q1 := HS3.out.head
      have q2 := HS3.out.swap.head
      have q3 := HS3.out.third.head
      subst hit
      exact ⟨q3.1, q3.2, q2, q1⟩) (fun k hk => by
      subst hit
      rcases hk with hk | hk | hk | hk
      · exact ⟨x1T qi v' R, List.mem_cons_of_mem _ (List.mem_cons_of_mem _ List.mem_cons_self), .inl hk⟩
      · exact ⟨x1T qi v' R, List.mem_cons_of_mem _ (List.mem_cons_of_mem _ List.mem_cons_self), .inr hk⟩
      · exact ⟨_, List.mem_cons_of_mem _ List.mem_cons_self, hk⟩
      · exact ⟨_, List.mem_cons_self, hk⟩)
    exact s1.perm (pAB [itT it, _, _, _, _, _] [_, _, _, _, _] l)
  have hitR : it.R.length ≤ 900000 := by rw [eR]; exact hl
  clear HS3 hit eR
  have l1 : ∀ y : ItT, (e0T y).length = 1 := fun _ => rfl
  have l2 : ∀ y : ItT, (e1T y).length = 1 := fun _ => rfl
  have l3 : ∀ y : ItT, (e2T y).length = 1 := fun _ => rfl
  have o1 : ∀ y : ItT, ∀ u ∈ e0T y, u.oneCell' = true := fun y u hu => by simp [e0T] at hu; subst hu; rfl
  have o2 : ∀ y : ItT, ∀ u ∈ e1T y, u.oneCell' = true := fun y u hu => by simp [e1T] at hu; subst hu; rfl
  have o3 : ∀ y : ItT, ∀ u ∈ e2T y, u.oneCell' = true := fun y u hu => by simp [e2T] at hu; subst hu; rfl
  obtain ⟨p0, c0, W4, r0, s0⟩ := sep_pushX l1 o1 Try.underlying32 info80 rfl (by omega) HS4.out.swap (by omega) it
  have s5 := Sep.setBox s0.swap 3 (.slice p0 (L ++ [it]).length c0)
  obtain ⟨p1, c1, W5, r1, s6⟩ := sep_pushX l2 o2 Try.underlying31 info65 rfl (by omega) s5.third (by omega) it
  have s7 := Sep.setBox s6.back 4 (.slice p1 (L ++ [it]).length c1)
  obtain ⟨p2, c2, W6, r2, s8⟩ := sep_pushX l3 o3 Try.underlying33 info82 rfl (by omega) s7.front4 (by omega) it
  have s9 := Sep.setBox s8.back4 5 (.slice p2 (L ++ [it]).length c2)
  have HS9 : Hid (Sep w (W6.setCell ⟨gK, 5, none⟩ (.slice p2 (L ++ [it]).length c2)) (bxP gK #[y0, y1, y2, (.slice p0 (L ++ [it]).length c0), (.slice p1 (L ++ [it]).length c1), (.slice p2 (L ++ [it]).length c2)] 35 :: k0T (.slice p0 (L ++ [it]).length c0) (L ++ [it]) :: k1T (.slice p1 (L ++ [it]).length c1) (L ++ [it]) :: k2T (.slice p2 (L ++ [it]).length c2) (L ++ [it]) :: itsT (L ++ [it]) :: bxP W.heap.size #[.int .i64 a0, .int .i64 5, .int .i64 fd, .int .i64 x] 38 :: tpT gA vA leA m (mapR tx R) :: rfL gP m vF vV R l)) := by
    have t1 := s9.perm (pAB [_, _, _, _] [itsT L, itT it] _)
    exact (sep_itemT t1).perm (pAB [_] [_, _, _, _] _)
  have hk0 : W3.heap[gK]? = some (.cells #[y0, y1, y2, va, vb, vc] 35) := HS4.out.head
  have f0 : W3.cell? ⟨gK, 3, none⟩ = some va := Joins.cell_of_block hk0 3
  have hk1 : W4.heap[gK]? = some (.cells #[y0, y1, y2, va, vb, vc] 35) := s0.swap.head
  have f1 : W4.cell? ⟨gK, 3, none⟩ = some va := Joins.cell_of_block hk1 3
  have z1 : W4.frozen? ⟨gK, 3, none⟩ = false := frozen_row hk1 3
  have hk2 : (W4.setCell ⟨gK, 3, none⟩ (.slice p0 (L ++ [it]).length c0)).heap[gK]? = some (.cells #[y0, y1, y2, (.slice p0 (L ++ [it]).length c0), vb, vc] 35) := s5.head
  have f2 : (W4.setCell ⟨gK, 3, none⟩ (.slice p0 (L ++ [it]).length c0)).cell? ⟨gK, 4, none⟩ = some vb := Joins.cell_of_block hk2 4
  have hk3 : W5.heap[gK]? = some (.cells #[y0, y1, y2, (.slice p0 (L ++ [it]).length c0), vb, vc] 35) := s6.back.head
  have f3 : W5.cell? ⟨gK, 4, none⟩ = some vb := Joins.cell_of_block hk3 4
  have z3 : W5.frozen? ⟨gK, 4, none⟩ = false := frozen_row hk3 4
  have hk4 : (W5.setCell ⟨gK, 4, none⟩ (.slice p1 (L ++ [it]).length c1)).heap[gK]? = some (.cells #[y0, y1, y2, (.slice p0 (L ++ [it]).length c0), (.slice p1 (L ++ [it]).length c1), vc] 35) := s7.head
  have f4 : (W5.setCell ⟨gK, 4, none⟩ (.slice p1 (L ++ [it]).length c1)).cell? ⟨gK, 5, none⟩ = some vc := Joins.cell_of_block hk4 5
  have hk5 : W6.heap[gK]? = some (.cells #[y0, y1, y2, (.slice p0 (L ++ [it]).length c0), (.slice p1 (L ++ [it]).length c1), vc] 35) := s8.back4.head
  have f5 : W6.cell? ⟨gK, 5, none⟩ = some vc := Joins.cell_of_block hk5 5
  have z5 : W6.frozen? ⟨gK, 5, none⟩ = false := frozen_row hk5 5
  have h7 : (W6.setCell ⟨gK, 5, none⟩ (.slice p2 (L ++ [it]).length c2)).cell? ⟨W.heap.size, 3, none⟩ = some (.int .i64 x) := Joins.cell_of_block (HS9.out.sayOf (q := bxP W.heap.size #[.int .i64 a0, .int .i64 5, .int .i64 fd, .int .i64 x] 38) (by simp)) 3
  have hwk := walk_itT ((HS9.out.sayOf (q := itsT (L ++ [it])) (by simp)) it (by simp)) hitR x
  have hz1 : (W4.setCell ⟨gK, 3, none⟩ (.slice p0 (L ++ [it]).length c0)).heap.size = W4.heap.size := by simp
  have hz2 : (W5.setCell ⟨gK, 4, none⟩ (.slice p1 (L ++ [it]).length c1)).heap.size = W5.heap.size := by simp
  rw [hz1] at r1
  rw [hz2] at r2
  clear hz1 hz2
  unfold e0T at r0
  unfold e1T at r1
  unfold e2T at r2
  rw [eN] at r0
  rw [eF] at r1
  rw [eV] at r2
  rw [eN, eF, eV] at hwk
  have HLL : Hid ((L ++ [it]).length = L.length + 1 ∧ ∀ y ∈ L ++ [it], y.R.length ≤ 900000) := ⟨by simp, fun y hy => by
    rcases List.mem_append.1 hy with hy | hy
    · exact HLR.out y hy
    · rw [List.mem_singleton.1 hy]; exact hitR⟩
  clear s0 s5 s6 s7 s8 s9 HS4 hk0 hk1 hk2 hk3 hk4 hk5 HLR l1 l2 l3 o1 o2 o3 hitR eF eV eN
  generalize hNL : (L ++ [it]).length = NL at *
  have HNL := (show Hid _ from hNL)
  clear hNL
  generalize L ++ [it] = L' at *
  generalize cnt R = n at *
  have Q0 := (show Hid _ from r0)
  have Q1 := (show Hid _ from r1)
  have Q2 := (show Hid _ from r2)
  have QW := (show Hid _ from hwk)
  clear r0 r1 r2 hwk
  go_wp2_with (first | (at_builtin; refine wpList_app rfl (.tmp 173) (.tmp 175) rfl rfl rfl Q0.out ?_) | (at_builtin; refine wpList_app rfl (.tmp 183) (.tmp 185) rfl rfl rfl Q1.out ?_) | (at_builtin; refine wpList_app rfl (.tmp 193) (.tmp 195) rfl rfl rfl Q2.out ?_) | (go_at_call 49; fail))
  refine (show Calls _ _ _ _ _ from QW.out).mono ?_
  rintro e W9 ⟨rfl, hb9⟩
  have HT := (show Hid _ from ((HS9.out.later hb9).perm (pAB [_, _, _, _, _] [_, _, _, _, _] l)).drop)
  clear hb9 HS9 Q0 Q1 Q2 QW f0 f1 f2 f3 f4 f5 z1 z3 z5 h7
  go_wp2
  go_ret
  exact ⟨rfl, _, _, _, L', HNL.out.trans HLL.out.1, HLL.out.2, HT.out⟩
end
end Go.Proofs.Ytbchbappdpbkiaa
