/- Several texts joined: the log, its cache and its disk, of the program and of the document; no condition. -/
import Derived.Test.YtichojdcoegboaaGreatK8
namespace Go.Proofs.YtichojdcoegboaaGreatW
open Go.RowKit Go.Maps
set_option maxRecDepth 20000 in
set_option maxHeartbeats 400000 in
theorem refBlank_any (f : Nat → Int) (w : World) :
  Calls Tryz.prog 82 #[.agg (blk f)] w fun e w' => e = .returned (.bool (blankB f)) ∧ Below w.heap.size w w' := by
 go_enter Tryz.func82, Tryz.ntmps82
 go_wp2
 go_loop [3] (fun s3 => ∃ k : Nat, (k : Int) ≤ 1024 ∧ s3 = .int .i64 k ∧ Hid (∀ i, i < k → f i = 0)) (fun s3 => 1024 - (intOf s3).toNat)
 case atStart => exact ⟨0, by omega, rfl, fun i hi => absurd hi (by omega)⟩
 case round =>
  obtain ⟨k, hk, rfl, hz⟩ := hrel
  by_cases hk2 : (k : Int) < 1024
  ·have hbk := blk_get f k (by omega)
   by_cases h0 : f k = 0
   ·have HZ : Hid (∀ i, i < k + 1 → f i = 0) := fun i hi => by
     by_cases e : i = k
     ·rw [e]; exact h0
     ·exact hz.out i (by omega)
    have hb : (f k != 0) = false := by simp [h0]
    clear hz h0
    go_wp2
    go_round
    case rel => exact ⟨k + 1, by omega, by go_num, HZ⟩
    case measure => simp [intOf]; omega
   ·have HS : Hid (sameB f nought = false) := by
     show _ = _
     cases h : sameB f nought with
     | false => rfl
     | true => exact absurd ((sameB_iff f nought).1 h k (by omega)) h0
    have hb : (f k != 0) = true := by simp [h0]
    clear hz h0
    go_wp2
    go_ret
    exact ⟨by unfold blankB; rw [HS.out]; rfl, (Below.refl _ _).alloc (Nat.le_refl _) _⟩
  ·have HS : Hid (sameB f nought = true) := (sameB_iff f nought).2 fun i hi => hz.out i (by omega)
   clear hz
   go_wp2
   go_ret
   exact ⟨by unfold blankB; rw [HS.out]; rfl, (Below.refl _ _).alloc (Nat.le_refl _) _⟩
section
variable {ops : Array Oper} {rest : List Oper} {Q : Exit → Act → World → Prop} {a : Act} {w : World} {dst : Option Tmp} {x y : Operand} {ty : TypeId} {pos : String} {aft : Array Edge} {gd : Option (Nat × Bool)}
theorem isLoad (t : TypeId) (h : wpList Tryz.prog ops Q (⟨dst, .load t x, ty, pos, aft, gd⟩ :: rest) a w) : wpList Tryz.prog ops Q (⟨dst, .load t x, ty, pos, aft, gd⟩ :: rest) a w := h
theorem isStore (t : TypeId) (h : wpList Tryz.prog ops Q (⟨dst, .store t x y, ty, pos, aft, gd⟩ :: rest) a w) : wpList Tryz.prog ops Q (⟨dst, .store t x y, ty, pos, aft, gd⟩ :: rest) a w := h
end
set_option maxRecDepth 20000 in
set_option maxHeartbeats 4000000 in
theorem refMay_any (n : Int) (l : List Cel) (p : Option Addr) (cap : Nat) (w : World) (hl : l.length < 9223372036854775807) (h : ImgAt w p l) :
  Calls Tryz.prog 29 #[.agg #[.int .i64 n, .slice p l.length cap]] w fun e w' => e = .returned (.bool (mayB n l)) ∧ Below w.heap.size w w' := by
 have hB := below_new w (.cells #[.int .i64 n, .slice p l.length cap] 24)
 have hG := heap_alloc_new w (.cells #[.int .i64 n, .slice p l.length cap] 24)
 have HI : Hid (ImgAt w p l) := h
 clear h
 obtain ⟨N, hN⟩ : ∃ N, l.length = N := ⟨_, rfl⟩
 have HN := Hid.mk' hN
 rw [hN] at hl hB hG ⊢
 clear hN
 have h10 : ((1 : Int) ≤ n ∧ n ≤ 1048576) ↔ bndB n = true := by unfold bndB; exact decide_eq_true_iff.symm
 by_cases h1 : n < 1
 ·have hres : mayB n l = false := by
   have : bndB n = false := by cases q : bndB n; rfl; exact absurd (h10.2 q).1 (by omega)
   unfold mayB; rw [this]; rfl
  rw [hres]
  clear hres h10
  go_enter Tryz.func29, Tryz.ntmps29
  go_wp2
  go_ret
  exact ⟨rfl, hB⟩
 by_cases h2 : n > 1048576
 ·have hres : mayB n l = false := by
   have : bndB n = false := by cases q : bndB n; rfl; exact absurd (h10.2 q).2 (by omega)
   unfold mayB; rw [this]; rfl
  rw [hres]
  clear hres h10
  go_enter Tryz.func29, Tryz.ntmps29
  go_wp2
  go_ret
  exact ⟨rfl, hB⟩
 have HR : Hid (mayB n l = risesB n (-1) (l.drop 0)) := by unfold mayB; rw [h10.1 ⟨by omega, by omega⟩]; rfl
 generalize mayB n l = res at *
 clear h10
 have H0 : Hid (Below w.heap.size w (w.alloc (.cells #[.int .i64 n, .slice p N cap] 24)) ∧ (w.alloc (.cells #[.int .i64 n, .slice p N cap] 24)).heap[w.heap.size]? = some (.cells #[.int .i64 n, .slice p N cap] 24)) := ⟨hB, hG⟩
 clear hB hG
 go_enter Tryz.func29, Tryz.ntmps29
 go_wp2
 generalize hq1 : w.heap.size = g1 at *
 have HQ := Hid.mk' hq1
 clear hq1
 go_loopw [3] (fun s3 wx => ∃ (k : Nat) (x : Int), k ≤ N ∧ s3 = .int .i64 k ∧ -1 ≤ x ∧ (0 < k → 0 ≤ x ∧ ∃ f, l[k - 1]? = some (x, f)) ∧ Hid (Below g1 w wx ∧ wx.heap[g1]? = some (.cells #[.int .i64 n, .slice p N cap] 24)) ∧ Hid (res = risesB n x (l.drop k) ∧ (k = 0 → x = -1))) (fun s3 _ => N - (intOf s3).toNat)
 case atStart => exact ⟨0, -1, by omega, rfl, by omega, fun q => by omega, H0.out, HR.out, fun _ => rfl⟩
 case round =>
  obtain ⟨k, x, hk, rfl, hx, hpv, H9, HR2⟩ := hrel
  clear HR H0
  have hb9 := H9.out.1
  rw [← HQ.out] at hb9
  have i0 : wr.cell? ⟨g1, 0, none⟩ = some (.int .i64 n) := Joins.cell_of_block H9.out.2 0
  have i1 : wr.cell? ⟨g1, 1, none⟩ = some (.slice p N cap) := Joins.cell_of_block H9.out.2 1
  by_cases hk2 : (k : Int) < N
  ·have hlN := HN.out
   have hc : l[k]? = some (l[k]'(by omega)) := List.getElem?_eq_getElem _
   obtain ⟨b, off, rfl, hlt, hC⟩ := HI.out (by omega)
   have hd : l.drop k = l[k]'(by omega) :: l.drop (k + 1) := List.drop_eq_getElem_cons (by omega)
   generalize l[k]'(by omega) = c at hc hd
   obtain ⟨q1, q2⟩ := (hC.later hb9 hlt) k c hc
   obtain ⟨y, f⟩ := c
   have hR := HR2.out.1
   rw [hd] at hR
   unfold risesB at hR
   simp only at hR q1 q2
   have hfin : ∀ W', Below wr.heap.size wr W' → Below g1 w W' := fun W' h => by
    rw [← HQ.out]
    exact below_next hb9 h
   have HFn := Hid.mk' hfin
   by_cases h3 : y < 0
   ·have hr0 : res = false := by rw [hR]; simp [show y ≤ x by omega]
    clear hR hd hc HR2 hC hpv hfin hb9
    subst hr0
    go_wp2
    go_ret
    exact ⟨rfl, by rw [HQ.out]; exact HFn.out _ (Below.refl _ _)⟩
   by_cases h4 : y ≥ n
   ·have hr0 : res = false := by rw [hR]; simp [h4]
    clear hR hd hc HR2 hC hpv hfin hb9
    subst hr0
    go_wp2
    go_ret
    exact ⟨rfl, by rw [HQ.out]; exact HFn.out _ (Below.refl _ _)⟩
   have HBl := Hid.mk' (refBlank_any f)
   rcases Nat.eq_zero_or_pos k with hk0 | hk0
   ·have hxx := HR2.out.2 hk0
    subst hk0
    have hk3 : (0 : Int) < N := by omega
    have hk4 : 0 < N := by omega
    clear hk2 hk
    simp only [Int.natCast_zero]
    have q2' : BlkAt wr b (off + 1) f := by have := q2; rwa [show off + 0 * 1025 + 1 = off + 1 by omega] at this
    have q1' : wr.cell? ⟨b, off, none⟩ = some (.int .i64 y) := by have := q1; rwa [show off + 0 * 1025 = off by omega] at this
    cases h5 : blankB f
    ·have HR3 : Hid (res = risesB n y (l.drop (0 + 1))) := by
      show res = _
      rw [hR, h5]; simp [show ¬ (y ≤ x) by omega, show ¬ (y ≥ n) from h4]
     rw [h5] at HBl
     have HcK : Hid (l[0]? = some (y, f)) := hc
     clear hR hd hc HR2 hC hpv hfin hb9 hxx q2 q1
     go_wp2_with (first | (with_reducible refine isLoad 64 ?_; refine wpList_loadMw rfl (.tmp 54) rfl b (off + 1) rfl f q2' ?_) | (go_at_call 82; fail))
     refine (HBl.out _).mono ?_
     rintro e W9 ⟨rfl, hb10⟩
     have H10 : Hid (Below g1 w W9 ∧ W9.heap[g1]? = some (.cells #[.int .i64 n, .slice (some ⟨b, off, none⟩) N cap] 24)) := ⟨HFn.out _ hb10, heap_kept H9.out.2 hb10⟩
     clear hb10 H9
     go_wp2
     exact ⟨⟨0 + 1, y, by omega, by go_num, by omega, fun _ => ⟨by omega, f, HcK.out⟩, H10.out, HR3.out, fun q => by omega⟩, by simp [intOf]; omega⟩
    ·have hr0 : res = false := by rw [hR, h5]; simp
     rw [h5] at HBl
     clear hR hd hc HR2 hC hpv hfin hb9 hxx q2 q1
     subst hr0
     go_wp2_with (first | (with_reducible refine isLoad 64 ?_; refine wpList_loadMw rfl (.tmp 54) rfl b (off + 1) rfl f q2' ?_) | (go_at_call 82; fail))
     refine (HBl.out _).mono ?_
     rintro e W9 ⟨rfl, hb10⟩
     have H10 := Hid.mk' (HFn.out _ hb10)
     clear hb10 H9
     go_wp2
     go_ret
     exact ⟨rfl, by rw [HQ.out]; exact H10.out⟩
   ·obtain ⟨j, rfl⟩ : ∃ j, k = j + 1 := ⟨k - 1, by omega⟩
    obtain ⟨hx0, fp, hpp⟩ := hpv hk0
    rw [show j + 1 - 1 = j by omega] at hpp
    obtain ⟨p1, _⟩ := (hC.later hb9 hlt) j (x, fp) hpp
    simp only at p1
    have hw1 : IntKind.i64.wrap ((j : Int) + 1 - 1) = (j : Int) := by rw [IntKind.wrap_i64]; omega
    by_cases h6 : x ≥ y
    ·have hr0 : res = false := by rw [hR]; simp [show y ≤ x from h6]
     clear hR hd hc HR2 hC hpv hfin hb9
     subst hr0
     go_wp2
     go_ret
     exact ⟨rfl, by rw [HQ.out]; exact HFn.out _ (Below.refl _ _)⟩
    ·cases h5 : blankB f
     ·have HR3 : Hid (res = risesB n y (l.drop (j + 1 + 1))) := by
       show res = _
       rw [hR, h5]; simp [show ¬ (y ≤ x) by omega, show ¬ (y ≥ n) from h4]
      rw [h5] at HBl
      have HcK : Hid (l[j + 1]? = some (y, f)) := hc
      clear hR hd hc HR2 hC hpv hfin hb9
      go_wp2_with (first | (with_reducible refine isLoad 64 ?_; refine wpList_loadMw rfl (.tmp 54) rfl b (off + (j + 1) * 1025 + 1) rfl f q2 ?_) | (go_at_call 82; fail))
      refine (HBl.out _).mono ?_
      rintro e W9 ⟨rfl, hb10⟩
      have H10 : Hid (Below g1 w W9 ∧ W9.heap[g1]? = some (.cells #[.int .i64 n, .slice (some ⟨b, off, none⟩) N cap] 24)) := ⟨HFn.out _ hb10, heap_kept H9.out.2 hb10⟩
      clear hb10 H9
      go_wp2
      exact ⟨⟨j + 1 + 1, y, by omega, by go_num, by omega, fun _ => ⟨by omega, f, by rw [show j + 1 + 1 - 1 = j + 1 by omega]; exact HcK.out⟩, H10.out, HR3.out, fun q => by omega⟩, by simp [intOf]; omega⟩
     ·have hr0 : res = false := by rw [hR, h5]; simp
      rw [h5] at HBl
      clear hR hd hc HR2 hC hpv hfin hb9
      subst hr0
      go_wp2_with (first | (with_reducible refine isLoad 64 ?_; refine wpList_loadMw rfl (.tmp 54) rfl b (off + (j + 1) * 1025 + 1) rfl f q2 ?_) | (go_at_call 82; fail))
      refine (HBl.out _).mono ?_
      rintro e W9 ⟨rfl, hb10⟩
      have H10 := Hid.mk' (HFn.out _ hb10)
      clear hb10 H9
      go_wp2
      go_ret
      exact ⟨rfl, by rw [HQ.out]; exact H10.out⟩
  ·have hr0 : res = true := by rw [HR2.out.1, List.drop_of_length_le (by have := HN.out; omega)]; rfl
   have HFn := Hid.mk' hb9
   clear hb9 hpv HR2
   subst hr0
   go_wp2
   go_ret
   exact ⟨rfl, HFn.out⟩
structure LDs (w : World) (b : Nat → Int) (v : Value) (acc : List Cel) (wx : World) : Prop where
 own : wx.ownsRow w.heap.size 76 1025 v acc.length (acc.flatMap celRow)
 bel : Below w.heap.size w wx
 box : wx.heap[w.heap.size]? = some (.cells (blk b) 64)
theorem LDs.later {w wx wy : World} {b : Nat → Int} {v : Value} {acc : List Cel} (h : LDs w b v acc wx) (hb : Below wx.heap.size wx wy) : LDs w b v acc wy := ⟨own_later h.own hb, below_next h.bel hb, heap_kept h.box hb⟩
theorem LDs.push {w wx : World} {b : Nat → Int} {v : Value} {acc : List Cel} (h : LDs w b v acc wx) (hn : acc.length ≤ 50000000) (x : Cel) :
  ∃ v' w', (Builtin.append_ #[22, 22] 22 #[v, .slice (some ⟨wx.heap.size, 0, none⟩) 1 1]).run Tryz.prog (wx.alloc (.cells (celRow x).toArray 76)) = .ok v' w' ∧ LDs w b v' (acc ++ [x]) w' := by
 obtain ⟨i0, hi0, hz0, hz1, hz2⟩ := info_parts info85
 obtain ⟨v', w', hr, ho, hb, hf⟩ := own_pushF celRow_len celRow_one Tryz.underlying22 hi0 hz0 hz1 hz2 (cel_size (0, nought)) (by omega) (by omega) h.own h.bel.size hn x 22
 exact ⟨v', w', hr, ho, h.bel.trans hb, (hf.block _ (Array.getElem?_eq_some_iff.1 h.box).1 (own_ne h.own h.box (by decide))).trans h.box⟩
theorem laidGo_at (k : Int) (b : Nat → Int) (dn : Bool) (y : Int) (f : Nat → Int) (t : List Cel) : laidGo k b dn ((y, f) :: t) = (if !dn && decide (k ≤ y) then [(k, b)] else []) ++ ((if y = k then [] else [(y, f)]) ++ laidGo k b (dn || decide (k ≤ y)) t) := rfl
set_option maxRecDepth 20000 in
set_option maxHeartbeats 4000000 in
theorem laid_any (l : List Cel) (p0 : Option Addr) (cap : Nat) (k : Int) (b : Nat → Int) (w : World) (hl : l.length ≤ 9000000) (h : ImgAt w p0 l) :
  Calls Tryz.prog 89 #[.slice p0 l.length cap, .int .i64 k, .agg (blk b)] w fun e w' => ∃ v, e = .returned v ∧ w'.ownsRow w.heap.size 76 1025 v (laidL l k b).length ((laidL l k b).flatMap celRow) ∧ Below w.heap.size w w' := by
 have HI := Hid.mk' h
 clear h
 obtain ⟨N, hN⟩ : ∃ N, l.length = N := ⟨_, rfl⟩
 have HN := Hid.mk' hN
 rw [hN] at hl ⊢
 clear hN
 have H0 : Hid (LDs w b (.slice none 0 0) [] (w.alloc (.cells (blk b) 64))) := ⟨World.ownsRow_nil _ _ _ _, below_new _ _, heap_alloc_new _ _⟩
 have HL0 : Hid (laidL l k b = [] ++ laidGo k b (blankB b) (l.drop 0)) := rfl
 have HBl := Hid.mk' (fun W => refBlank_any b W)
 have HBz := Hid.mk' (blk_size b)
 have HE1 := Hid.mk' (fun (o : Oper) (a : Act) (W : World) (x y : Operand) (ho : o.op = .build 76 #[(0, x), (1, y)]) (hx : a.eval x = .int .i64 k) (hy : a.eval y = .agg (blk b)) => exec_build85 (W := W) (p := k) (f := b) ho hx hy)
 generalize laidL l k b = L at *
 generalize hbl : blankB b = bl at *
 clear hbl
 go_enter Tryz.func89, Tryz.ntmps89
 go_wp2_with (first | (with_reducible refine isLoad 64 ?_; refine wpList_load25 rfl (.tmp 5) rfl w.heap.size rfl b H0.out.box ?_) | (go_at_call 82; fail))
 refine Calls.mono (HBl.out _) ?_
 rintro e W1 ⟨rfl, hb⟩
 have H1 := Hid.mk' (H0.out.later hb)
 clear hb H0 HBl
 go_wp2
 go_loopw [8, 9, 10] (fun s8 s9 s10 wx => ∃ (j : Nat) (dn : Bool) (acc : List Cel), (j : Int) ≤ N ∧ s9 = .bool dn ∧ s10 = .int .i64 j ∧ Hid (LDs w b s8 acc wx) ∧ Hid (L = acc ++ laidGo k b dn (l.drop j) ∧ acc.length ≤ 2 * j)) (fun _ _ s10 _ => N - (intOf s10).toNat)
 case atStart => exact ⟨0, bl, [], by omega, rfl, rfl, H1.out, HL0.out, by simp⟩
 case round =>
  obtain ⟨j, dn, acc, hj, rfl, rfl, HS, HA⟩ := hrel
  clear H1 HL0
  by_cases hj2 : (j : Int) < N
  ·have hjl : j < l.length := by have := HN.out; omega
   have hc : l[j]? = some (l[j]'hjl) := List.getElem?_eq_getElem hjl
   have hd : l.drop j = l[j]'hjl :: l.drop (j + 1) := List.drop_eq_getElem_cons hjl
   generalize l[j]'hjl = x at hc hd
   obtain ⟨b0, off, rfl, hlt, hC⟩ := HI.out (by omega)
   have HQA := Hid.mk' (fun (W : World) (hW : Below w.heap.size w W) => show CelAt W b0 (off + j * 1025) x from (hC.later hW hlt) j x hc)
   have HQ := Hid.mk' (HQA.out wr HS.out.bel)
   have c1 := HQ.out.1
   obtain ⟨y, f⟩ := x
   dsimp only at c1
   have hA := HA.out
   rw [hd, laidGo_at] at hA
   have HA2 := Hid.mk' hA
   clear hd hc hC HA hA hjl
   cases dn
   ·by_cases hp : k ≤ y
    ·have hpI : decide (k ≤ y) = true := decide_eq_true hp
     obtain ⟨v2, w2, hr2, hs2⟩ := HS.out.push (by have := HA2.out.2; omega) (k, b)
     have HR2 := Hid.mk' hr2
     have HS2 := Hid.mk' hs2
     clear hr2 hs2
     by_cases hy : y = k
     ·have HF := Hid.mk' (show L = (acc ++ [(k, b)]) ++ laidGo k b true (l.drop (j + 1)) ∧ (acc ++ [(k, b)]).length ≤ 2 * (j + 1) from ⟨by rw [HA2.out.1]; simp [hy], by have := HA2.out.2; rw [List.length_append, List.length_singleton]; omega⟩)
      subst hy
      have c2 : w2.cell? ⟨b0, off + j * 1025, none⟩ = some (.int .i64 y) := by
       have e := (HS.out.bel.cell (p := ⟨b0, off + j * 1025, none⟩) hlt)
       exact (HS2.out.bel.cell (p := ⟨b0, off + j * 1025, none⟩) hlt).trans (e.symm.trans c1)
      clear HA2 HQA
      go_wp2_with (first | (with_reducible refine isLoad 64 ?_; refine wpList_load25 rfl (.tmp 5) rfl w.heap.size rfl b HS.out.box ?_) | refine wpList_exec rfl (HE1.out _ _ _ _ _ rfl rfl rfl) ?_ | refine wpList_exec rfl (exec_slice85 (c := (y, b)) rfl rfl) ?_ | (at_builtin; refine wpList_exec rfl (exec_pushY rfl rfl rfl HR2.out) ?_))
      exact ⟨⟨j + 1, true, acc ++ [(y, b)], by omega, rfl, by go_num, HS2.out, HF.out⟩, by simp [intOf]; omega⟩
     ·have hne : (y != k) = true := by simpa using hy
      have HQ2 := Hid.mk' (HQA.out w2 HS2.out.bel)
      have c2 := HQ2.out.1
      dsimp only at c2
      obtain ⟨v3, w3, hr3, hs3⟩ := HS2.out.push (by have := HA2.out.2; rw [List.length_append, List.length_singleton]; omega) (y, f)
      have HR3 := Hid.mk' hr3
      have HS3 := Hid.mk' hs3
      clear hr3 hs3
      have HF := Hid.mk' (show L = (acc ++ [(k, b)] ++ [(y, f)]) ++ laidGo k b true (l.drop (j + 1)) ∧ (acc ++ [(k, b)] ++ [(y, f)]).length ≤ 2 * (j + 1) from ⟨by rw [HA2.out.1]; simp [hp, hy], by have := HA2.out.2; rw [List.length_append, List.length_append, List.length_singleton, List.length_singleton]; omega⟩)
      clear HA2 HQA hy
      go_wp2_with (first | (with_reducible refine isLoad 64 ?_; refine wpList_load25 rfl (.tmp 5) rfl w.heap.size rfl b HS.out.box ?_) | refine wpList_exec rfl (HE1.out _ _ _ _ _ rfl rfl rfl) ?_ | refine wpList_exec rfl (exec_slice85 (c := (k, b)) rfl rfl) ?_ | (at_builtin; refine wpList_exec rfl (exec_pushY rfl rfl rfl HR2.out) ?_) | (with_reducible refine isLoad 76 ?_; refine wpList_exec rfl (exec_load85 (c := (y, f)) rfl rfl HQ2.out) ?_) | refine wpList_exec rfl (exec_slice85 (c := (y, f)) rfl rfl) ?_ | (at_builtin; refine wpList_exec rfl (exec_pushY rfl rfl rfl HR3.out) ?_))
      exact ⟨⟨j + 1, true, acc ++ [(k, b)] ++ [(y, f)], by omega, rfl, by go_num, HS3.out, HF.out⟩, by simp [intOf]; omega⟩
    ·have hy : ¬ y = k := by omega
     have hpI : decide (k ≤ y) = false := decide_eq_false hp
     have hne : (y != k) = true := by simpa using hy
     obtain ⟨v2, w2, hr2, hs2⟩ := HS.out.push (by have := HA2.out.2; omega) (y, f)
     have HR2 := Hid.mk' hr2
     have HS2 := Hid.mk' hs2
     clear hr2 hs2
     have HF := Hid.mk' (show L = (acc ++ [(y, f)]) ++ laidGo k b false (l.drop (j + 1)) ∧ (acc ++ [(y, f)]).length ≤ 2 * (j + 1) from ⟨by rw [HA2.out.1]; simp [hp, hy], by have := HA2.out.2; rw [List.length_append, List.length_singleton]; omega⟩)
     clear HA2 HQA hy
     go_wp2_with (first | (with_reducible refine isLoad 76 ?_; refine wpList_exec rfl (exec_load85 (c := (y, f)) rfl rfl HQ.out) ?_) | refine wpList_exec rfl (exec_slice85 (c := (y, f)) rfl rfl) ?_ | (at_builtin; refine wpList_exec rfl (exec_pushY rfl rfl rfl HR2.out) ?_))
     exact ⟨⟨j + 1, false, acc ++ [(y, f)], by omega, rfl, by go_num, HS2.out, HF.out⟩, by simp [intOf]; omega⟩
   ·by_cases hy : y = k
    ·have HF := Hid.mk' (show L = acc ++ laidGo k b true (l.drop (j + 1)) ∧ acc.length ≤ 2 * (j + 1) from ⟨by rw [HA2.out.1]; simp [hy], by have := HA2.out.2; omega⟩)
     subst hy
     clear HA2 HQA
     go_wp2
     exact ⟨⟨j + 1, true, acc, by omega, rfl, by go_num, HS.out, HF.out⟩, by simp [intOf]; omega⟩
    ·have hne : (y != k) = true := by simpa using hy
     obtain ⟨v2, w2, hr2, hs2⟩ := HS.out.push (by have := HA2.out.2; omega) (y, f)
     have HR2 := Hid.mk' hr2
     have HS2 := Hid.mk' hs2
     clear hr2 hs2
     have HF := Hid.mk' (show L = (acc ++ [(y, f)]) ++ laidGo k b true (l.drop (j + 1)) ∧ (acc ++ [(y, f)]).length ≤ 2 * (j + 1) from ⟨by rw [HA2.out.1]; simp [hy], by have := HA2.out.2; rw [List.length_append, List.length_singleton]; omega⟩)
     clear HA2 HQA hy
     go_wp2_with (first | (with_reducible refine isLoad 76 ?_; refine wpList_exec rfl (exec_load85 (c := (y, f)) rfl rfl HQ.out) ?_) | refine wpList_exec rfl (exec_slice85 (c := (y, f)) rfl rfl) ?_ | (at_builtin; refine wpList_exec rfl (exec_pushY rfl rfl rfl HR2.out) ?_))
     exact ⟨⟨j + 1, true, acc ++ [(y, f)], by omega, rfl, by go_num, HS2.out, HF.out⟩, by simp [intOf]; omega⟩
  ·have hjN : N = j := by omega
   subst hjN
   have hd : l.drop N = [] := List.drop_eq_nil_of_le (by have := HN.out; omega)
   have hA := HA.out
   rw [hd] at hA
   have HA2 := Hid.mk' hA
   clear hA hd HA
   cases dn
   ·obtain ⟨v2, w2, hr2, hs2⟩ := HS.out.push (by have := HA2.out.2; omega) (k, b)
    have HR2 := Hid.mk' hr2
    have HS2 := Hid.mk' hs2
    have HF := Hid.mk' (show L = acc ++ [(k, b)] from HA2.out.1)
    clear hr2 hs2 HA2
    go_wp2_with (first | (with_reducible refine isLoad 64 ?_; refine wpList_load25 rfl (.tmp 5) rfl w.heap.size rfl b HS.out.box ?_) | refine wpList_exec rfl (HE1.out _ _ _ _ _ rfl rfl rfl) ?_ | refine wpList_exec rfl (exec_slice85 (c := (k, b)) rfl rfl) ?_ | (at_builtin; refine wpList_exec rfl (exec_pushY rfl rfl rfl HR2.out) ?_))
    go_ret
    exact ⟨_, rfl, by rw [HF.out]; exact HS2.out.own, HS2.out.bel⟩
   ·have HF := Hid.mk' (show L = acc from by rw [HA2.out.1]; exact List.append_nil acc)
    clear HA2
    go_wp2
    go_ret
    exact ⟨_, rfl, by rw [HF.out]; exact HS.out.own, HS.out.bel⟩
end Go.Proofs.YtichojdcoegboaaGreatW
