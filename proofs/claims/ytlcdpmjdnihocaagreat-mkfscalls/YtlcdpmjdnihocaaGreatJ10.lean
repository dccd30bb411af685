/- Several texts joined, each with its own remark; no condition. -/
import Derived.Test.YtlcdpmjdnihocaaGreatJ9
import Derived.Test.YtlcdpmjdnihocaaGreatJ7
/- The document's Load: whether an image may be, and a copy of it; of fewer bytes than memory has. -/
namespace Go.Proofs.YtlcdpmjdnihocaaGreatD
open Go.RowKit Go.Maps
set_option maxRecDepth 20000 in
set_option maxHeartbeats 400000 in
theorem refBlank_any (f : Nat → Int) (w : World) :
    Calls Tryz.prog 55 #[.agg (blk f)] w fun e w' => e = .returned (.bool (blankB f)) ∧ Below w.heap.size w w' := by
  go_enter Tryz.func55, Tryz.ntmps55
  go_wp2
  go_loop [3] (fun s3 => ∃ k : Nat, (k : Int) ≤ 1024 ∧ s3 = .int .i64 k ∧ Hid (∀ i, i < k → f i = 0)) (fun s3 => 1024 - (intOf s3).toNat)
  case atStart => exact ⟨0, by omega, rfl, fun i hi => absurd hi (by omega)⟩
  case round =>
    obtain ⟨k, hk, rfl, hz⟩ := hrel
    by_cases hk2 : (k : Int) < 1024
    · have hbk := blk_get f k (by omega)
      by_cases h0 : f k = 0
      · have HZ : Hid (∀ i, i < k + 1 → f i = 0) := fun i hi => by
          by_cases e : i = k
          · rw [e]; exact h0
          · exact hz.out i (by omega)
        have hb : (f k != 0) = false := by simp [h0]
        clear hz h0
        go_wp2
        go_round
        case rel => exact ⟨k + 1, by omega, by go_num, HZ⟩
        case measure => simp [intOf]; omega
      · have HS : Hid (sameB f nought = false) := by
          show _ = _
          cases h : sameB f nought with
          | false => rfl
          | true => exact absurd ((sameB_iff f nought).1 h k (by omega)) h0
        have hb : (f k != 0) = true := by simp [h0]
        clear hz h0
        go_wp2
        go_ret
        exact ⟨by unfold blankB; rw [HS.out]; rfl, (Below.refl _ _).alloc (Nat.le_refl _) _⟩
    · have HS : Hid (sameB f nought = true) := (sameB_iff f nought).2 fun i hi => hz.out i (by omega)
      clear hz
      go_wp2
      go_ret
      exact ⟨by unfold blankB; rw [HS.out]; rfl, (Below.refl _ _).alloc (Nat.le_refl _) _⟩

section
variable {ops : Array Oper} {rest : List Oper} {Q : Exit → Act → World → Prop} {a : Act} {w : World} {dst : Option Tmp} {x y : Operand} {ty : TypeId} {pos : String} {aft : Array Edge} {gd : Option (Nat × Bool)}
theorem isLoad (t : TypeId) (h : wpList Tryz.prog ops Q (⟨dst, .load t x, ty, pos, aft, gd⟩ :: rest) a w) : wpList Tryz.prog ops Q (⟨dst, .load t x, ty, pos, aft, gd⟩ :: rest) a w := h
theorem isStore (t : TypeId) (h : wpList Tryz.prog ops Q (⟨dst, .store t x y, ty, pos, aft, gd⟩ :: rest) a w) : wpList Tryz.prog ops Q (⟨dst, .store t x y, ty, pos, aft, gd⟩ :: rest) a w := h
end
set_option maxRecDepth 20000 in
set_option maxHeartbeats 4000000 in
theorem refMay_any (n : Int) (l : List Cel) (p : Option Addr) (cap : Nat) (w : World) (hl : l.length < 9223372036854775807) (h : ImgAt w p l) :
    Calls Tryz.prog 32 #[.agg #[.int .i64 n, .slice p l.length cap]] w fun e w' => e = .returned (.bool (mayB n l)) ∧ Below w.heap.size w w' := by
  have hB := below_new w (.cells #[.int .i64 n, .slice p l.length cap] 24)
  have hG := heap_alloc_new w (.cells #[.int .i64 n, .slice p l.length cap] 24)
  have HI : Hid (ImgAt w p l) := h
  clear h
  obtain ⟨N, hN⟩ : ∃ N, l.length = N := ⟨_, rfl⟩
  have HN := Hid.mk' hN
  rw [hN] at hl hB hG ⊢
  clear hN
  have h10 : ((1 : Int) ≤ n ∧ n ≤ 1048576) ↔ bndB n = true := by unfold bndB; exact decide_eq_true_iff.symm
  by_cases h1 : n < 1
  · have hres : mayB n l = false := by
      have : bndB n = false := by cases q : bndB n; rfl; exact absurd (h10.2 q).1 (by omega)
      unfold mayB; rw [this]; rfl
    rw [hres]
    clear hres h10
    go_enter Tryz.func32, Tryz.ntmps32
    go_wp2
    go_ret
    exact ⟨rfl, hB⟩
  by_cases h2 : n > 1048576
  · have hres : mayB n l = false := by
      have : bndB n = false := by cases q : bndB n; rfl; exact absurd (h10.2 q).2 (by omega)
      unfold mayB; rw [this]; rfl
    rw [hres]
    clear hres h10
    go_enter Tryz.func32, Tryz.ntmps32
    go_wp2
    go_ret
    exact ⟨rfl, hB⟩
  have HR : Hid (mayB n l = risesB n (-1) (l.drop 0)) := by unfold mayB; rw [h10.1 ⟨by omega, by omega⟩]; rfl
  generalize mayB n l = res at *
  clear h10
  have H0 : Hid (Below w.heap.size w (w.alloc (.cells #[.int .i64 n, .slice p N cap] 24)) ∧ (w.alloc (.cells #[.int .i64 n, .slice p N cap] 24)).heap[w.heap.size]? = some (.cells #[.int .i64 n, .slice p N cap] 24)) := ⟨hB, hG⟩
  clear hB hG
  go_enter Tryz.func32, Tryz.ntmps32
  go_wp2
  generalize hq1 : w.heap.size = g1 at *
  have HQ := Hid.mk' hq1
  clear hq1
  go_loopw [3] (fun s3 wx => ∃ (k : Nat) (x : Int), k ≤ N ∧ s3 = .int .i64 k ∧ -1 ≤ x ∧ (0 < k → 0 ≤ x ∧ ∃ f, l[k - 1]? = some (x, f)) ∧ Hid (Below g1 w wx ∧ wx.heap[g1]? = some (.cells #[.int .i64 n, .slice p N cap] 24)) ∧ Hid (res = risesB n x (l.drop k) ∧ (k = 0 → x = -1))) (fun s3 _ => N - (intOf s3).toNat)
  case atStart => exact ⟨0, -1, by omega, rfl, by omega, fun q => by omega, H0.out, HR.out, fun _ => rfl⟩
  case round =>
    obtain ⟨k, x, hk, rfl, hx, hpv, H9, HR2⟩ := hrel
    clear HR H0
    have hb9 := H9.out.1
    rw [← HQ.out] at hb9
    have i0 : wr.cell? ⟨g1, 0, none⟩ = some (.int .i64 n) := Joins.cell_of_block H9.out.2 0
    have i1 : wr.cell? ⟨g1, 1, none⟩ = some (.slice p N cap) := Joins.cell_of_block H9.out.2 1
    by_cases hk2 : (k : Int) < N
    · have hlN := HN.out
      have hc : l[k]? = some (l[k]'(by omega)) := List.getElem?_eq_getElem _
      obtain ⟨b, off, rfl, hlt, hC⟩ := HI.out (by omega)
      have hd : l.drop k = l[k]'(by omega) :: l.drop (k + 1) := List.drop_eq_getElem_cons (by omega)
      generalize l[k]'(by omega) = c at hc hd
      obtain ⟨q1, q2⟩ := (hC.later hb9 hlt) k c hc
      obtain ⟨y, f⟩ := c
      have hR := HR2.out.1
      rw [hd] at hR
      unfold risesB at hR
      simp only at hR q1 q2
      have hfin : ∀ W', Below wr.heap.size wr W' → Below g1 w W' := fun W' h => by
        rw [← HQ.out]
        exact below_next hb9 h
      have HFn := Hid.mk' hfin
      by_cases h3 : y < 0
      · have hr0 : res = false := by rw [hR]; simp [show y ≤ x by omega]
        clear hR hd hc HR2 hC hpv hfin hb9
        subst hr0
        go_wp2
        go_ret
        exact ⟨rfl, by rw [HQ.out]; exact HFn.out _ (Below.refl _ _)⟩
      by_cases h4 : y ≥ n
      · have hr0 : res = false := by rw [hR]; simp [h4]
        clear hR hd hc HR2 hC hpv hfin hb9
        subst hr0
        go_wp2
        go_ret
        exact ⟨rfl, by rw [HQ.out]; exact HFn.out _ (Below.refl _ _)⟩
      have HBl := Hid.mk' (refBlank_any f)
      rcases Nat.eq_zero_or_pos k with hk0 | hk0
      · have hxx := HR2.out.2 hk0
        subst hk0
        have hk3 : (0 : Int) < N := by omega
        have hk4 : 0 < N := by omega
        clear hk2 hk
        simp only [Int.natCast_zero]
        have q2' : BlkAt wr b (off + 1) f := by have := q2; rwa [show off + 0 * 1025 + 1 = off + 1 by omega] at this
        have q1' : wr.cell? ⟨b, off, none⟩ = some (.int .i64 y) := by have := q1; rwa [show off + 0 * 1025 = off by omega] at this
        cases h5 : blankB f
        · have HR3 : Hid (res = risesB n y (l.drop (0 + 1))) := by
            show res = _
            rw [hR, h5]; simp [show ¬ (y ≤ x) by omega, show ¬ (y ≥ n) from h4]
          rw [h5] at HBl
          have HcK : Hid (l[0]? = some (y, f)) := hc
          clear hR hd hc HR2 hC hpv hfin hb9 hxx q2 q1
          go_wp2_with (first | (with_reducible refine isLoad 79 ?_; refine wpList_loadMw rfl (.tmp 54) rfl b (off + 1) rfl f q2' ?_) | (go_at_call 55; fail))
          refine (HBl.out _).mono ?_
          rintro e W9 ⟨rfl, hb10⟩
          have H10 : Hid (Below g1 w W9 ∧ W9.heap[g1]? = some (.cells #[.int .i64 n, .slice (some ⟨b, off, none⟩) N cap] 24)) := ⟨HFn.out _ hb10, heap_kept H9.out.2 hb10⟩
          clear hb10 H9
          go_wp2
          exact ⟨⟨0 + 1, y, by omega, by go_num, by omega, fun _ => ⟨by omega, f, HcK.out⟩, H10.out, HR3.out, fun q => by omega⟩, by simp [intOf]; omega⟩
        · have hr0 : res = false := by rw [hR, h5]; simp
          rw [h5] at HBl
          clear hR hd hc HR2 hC hpv hfin hb9 hxx q2 q1
          subst hr0
          go_wp2_with (first | (with_reducible refine isLoad 79 ?_; refine wpList_loadMw rfl (.tmp 54) rfl b (off + 1) rfl f q2' ?_) | (go_at_call 55; fail))
          refine (HBl.out _).mono ?_
          rintro e W9 ⟨rfl, hb10⟩
          have H10 := Hid.mk' (HFn.out _ hb10)
          clear hb10 H9
          go_wp2
          go_ret
          exact ⟨rfl, by rw [HQ.out]; exact H10.out⟩
      · obtain ⟨j, rfl⟩ : ∃ j, k = j + 1 := ⟨k - 1, by omega⟩
        obtain ⟨hx0, fp, hpp⟩ := hpv hk0
        rw [show j + 1 - 1 = j by omega] at hpp
        obtain ⟨p1, _⟩ := (hC.later hb9 hlt) j (x, fp) hpp
        simp only at p1
        have hw1 : IntKind.i64.wrap ((j : Int) + 1 - 1) = (j : Int) := by rw [IntKind.wrap_i64]; omega
        by_cases h6 : x ≥ y
        · have hr0 : res = false := by rw [hR]; simp [show y ≤ x from h6]
          clear hR hd hc HR2 hC hpv hfin hb9
          subst hr0
          go_wp2
          go_ret
          exact ⟨rfl, by rw [HQ.out]; exact HFn.out _ (Below.refl _ _)⟩
        · cases h5 : blankB f
          · have HR3 : Hid (res = risesB n y (l.drop (j + 1 + 1))) := by
              show res = _
              rw [hR, h5]; simp [show ¬ (y ≤ x) by omega, show ¬ (y ≥ n) from h4]
            rw [h5] at HBl
            have HcK : Hid (l[j + 1]? = some (y, f)) := hc
            clear hR hd hc HR2 hC hpv hfin hb9
            go_wp2_with (first | (with_reducible refine isLoad 79 ?_; refine wpList_loadMw rfl (.tmp 54) rfl b (off + (j + 1) * 1025 + 1) rfl f q2 ?_) | (go_at_call 55; fail))
            refine (HBl.out _).mono ?_
            rintro e W9 ⟨rfl, hb10⟩
            have H10 : Hid (Below g1 w W9 ∧ W9.heap[g1]? = some (.cells #[.int .i64 n, .slice (some ⟨b, off, none⟩) N cap] 24)) := ⟨HFn.out _ hb10, heap_kept H9.out.2 hb10⟩
            clear hb10 H9
            go_wp2
            exact ⟨⟨j + 1 + 1, y, by omega, by go_num, by omega, fun _ => ⟨by omega, f, by rw [show j + 1 + 1 - 1 = j + 1 by omega]; exact HcK.out⟩, H10.out, HR3.out, fun q => by omega⟩, by simp [intOf]; omega⟩
          · have hr0 : res = false := by rw [hR, h5]; simp
            rw [h5] at HBl
            clear hR hd hc HR2 hC hpv hfin hb9
            subst hr0
            go_wp2_with (first | (with_reducible refine isLoad 79 ?_; refine wpList_loadMw rfl (.tmp 54) rfl b (off + (j + 1) * 1025 + 1) rfl f q2 ?_) | (go_at_call 55; fail))
            refine (HBl.out _).mono ?_
            rintro e W9 ⟨rfl, hb10⟩
            have H10 := Hid.mk' (HFn.out _ hb10)
            clear hb10 H9
            go_wp2
            go_ret
            exact ⟨rfl, by rw [HQ.out]; exact H10.out⟩
    · have hr0 : res = true := by rw [HR2.out.1, List.drop_of_length_le (by have := HN.out; omega)]; rfl
      have HFn := Hid.mk' hb9
      clear hb9 hpv HR2
      subst hr0
      go_wp2
      go_ret
      exact ⟨rfl, HFn.out⟩
end Go.Proofs.YtlcdpmjdnihocaaGreatD
/- The document's laid: a block laid into a rising list; lists of at most a million. -/
namespace Go.Proofs.YtlcdpmjdnihocaaGreatD
open Go.RowKit Go.Maps
/-- The list so far, and the block's own place. -/
structure LDs (w : World) (b : Nat → Int) (v : Value) (acc : List Cel) (wx : World) : Prop where
  own : wx.ownsRow w.heap.size 81 1025 v acc.length (acc.flatMap celRow)
  bel : Below w.heap.size w wx
  box : wx.heap[w.heap.size]? = some (.cells (blk b) 79)
theorem LDs.later {w wx wy : World} {b : Nat → Int} {v : Value} {acc : List Cel} (h : LDs w b v acc wx) (hb : Below wx.heap.size wx wy) : LDs w b v acc wy := ⟨own_later h.own hb, below_next h.bel hb, heap_kept h.box hb⟩
theorem LDs.push {w wx : World} {b : Nat → Int} {v : Value} {acc : List Cel} (h : LDs w b v acc wx) (hn : acc.length ≤ 50000000) (x : Cel) :
    ∃ v' w', (Builtin.append_ #[22, 22] 22 #[v, .slice (some ⟨wx.heap.size, 0, none⟩) 1 1]).run Tryz.prog (wx.alloc (.cells (celRow x).toArray 81)) = .ok v' w' ∧ LDs w b v' (acc ++ [x]) w' := by
  obtain ⟨i0, hi0, hz0, hz1, hz2⟩ := info_parts info85
  obtain ⟨v', w', hr, ho, hb, hf⟩ := own_pushF celRow_len celRow_one Tryz.underlying22 hi0 hz0 hz1 hz2 (cel_size (0, nought)) (by omega) (by omega) h.own h.bel.size hn x 22
  exact ⟨v', w', hr, ho, h.bel.trans hb, (hf.block _ (Array.getElem?_eq_some_iff.1 h.box).1 (own_ne h.own h.box (by decide))).trans h.box⟩
theorem laidGo_at (k : Int) (b : Nat → Int) (dn : Bool) (y : Int) (f : Nat → Int) (t : List Cel) : laidGo k b dn ((y, f) :: t) = (if !dn && decide (k ≤ y) then [(k, b)] else []) ++ ((if y = k then [] else [(y, f)]) ++ laidGo k b (dn || decide (k ≤ y)) t) := rfl
set_option maxRecDepth 20000 in
set_option maxHeartbeats 4000000 in
theorem laid_any (l : List Cel) (p0 : Option Addr) (cap : Nat) (k : Int) (b : Nat → Int) (w : World) (hl : l.length ≤ 9000000) (h : ImgAt w p0 l) :
    Calls Tryz.prog 66 #[.slice p0 l.length cap, .int .i64 k, .agg (blk b)] w fun e w' => ∃ v, e = .returned v ∧ w'.ownsRow w.heap.size 81 1025 v (laidL l k b).length ((laidL l k b).flatMap celRow) ∧ Below w.heap.size w w' := by
  have HI := Hid.mk' h
  clear h
  obtain ⟨N, hN⟩ : ∃ N, l.length = N := ⟨_, rfl⟩
  have HN := Hid.mk' hN
  rw [hN] at hl ⊢
  clear hN
  have H0 : Hid (LDs w b (.slice none 0 0) [] (w.alloc (.cells (blk b) 79))) := ⟨World.ownsRow_nil _ _ _ _, below_new _ _, heap_alloc_new _ _⟩
  have HL0 : Hid (laidL l k b = [] ++ laidGo k b (blankB b) (l.drop 0)) := rfl
  have HBl := Hid.mk' (fun W => refBlank_any b W)
  have HBz := Hid.mk' (blk_size b)
  have HE1 := Hid.mk' (fun (o : Oper) (a : Act) (W : World) (x y : Operand) (ho : o.op = .build 81 #[(0, x), (1, y)]) (hx : a.eval x = .int .i64 k) (hy : a.eval y = .agg (blk b)) => exec_build85 (W := W) (p := k) (f := b) ho hx hy)
  generalize laidL l k b = L at *
  generalize hbl : blankB b = bl at *
  clear hbl
  go_enter Tryz.func66, Tryz.ntmps66
  go_wp2_with (first | (with_reducible refine isLoad 79 ?_; refine wpList_load25 rfl (.tmp 5) rfl w.heap.size rfl b H0.out.box ?_) | (go_at_call 55; fail))
  refine Calls.mono (HBl.out _) ?_
  rintro e W1 ⟨rfl, hb⟩
  have H1 := Hid.mk' (H0.out.later hb)
  clear hb H0 HBl
  go_wp2
  go_loopw [8, 9, 10] (fun s8 s9 s10 wx => ∃ (j : Nat) (dn : Bool) (acc : List Cel), (j : Int) ≤ N ∧ s9 = .bool dn ∧ s10 = .int .i64 j ∧ Hid (LDs w b s8 acc wx) ∧ Hid (L = acc ++ laidGo k b dn (l.drop j) ∧ acc.length ≤ 2 * j)) (fun _ _ s10 _ => N - (intOf s10).toNat)
  case atStart => exact ⟨0, bl, [], by omega, rfl, rfl, H1.out, HL0.out, by simp⟩
  case round =>
    obtain ⟨j, dn, acc, hj, rfl, rfl, HS, HA⟩ := hrel
    clear H1 HL0
    by_cases hj2 : (j : Int) < N
    · have hjl : j < l.length := by have := HN.out; omega
      have hc : l[j]? = some (l[j]'hjl) := List.getElem?_eq_getElem hjl
      have hd : l.drop j = l[j]'hjl :: l.drop (j + 1) := List.drop_eq_getElem_cons hjl
      generalize l[j]'hjl = x at hc hd
      obtain ⟨b0, off, rfl, hlt, hC⟩ := HI.out (by omega)
      have HQA := Hid.mk' (fun (W : World) (hW : Below w.heap.size w W) => show CelAt W b0 (off + j * 1025) x from (hC.later hW hlt) j x hc)
      have HQ := Hid.mk' (HQA.out wr HS.out.bel)
      have c1 := HQ.out.1
      obtain ⟨y, f⟩ := x
      dsimp only at c1
      have hA := HA.out
      rw [hd, laidGo_at] at hA
      have HA2 := Hid.mk' hA
      clear hd hc hC HA hA hjl
      cases dn
      · by_cases hp : k ≤ y
        · have hpI : decide (k ≤ y) = true := decide_eq_true hp
          obtain ⟨v2, w2, hr2, hs2⟩ := HS.out.push (by have := HA2.out.2; omega) (k, b)
          have HR2 := Hid.mk' hr2
          have HS2 := Hid.mk' hs2
          clear hr2 hs2
          by_cases hy : y = k
          · have HF := Hid.mk' (show L = (acc ++ [(k, b)]) ++ laidGo k b true (l.drop (j + 1)) ∧ (acc ++ [(k, b)]).length ≤ 2 * (j + 1) from ⟨by rw [HA2.out.1]; simp [hy], by have := HA2.out.2; rw [List.length_append, List.length_singleton]; omega⟩)
            subst hy
            have c2 : w2.cell? ⟨b0, off + j * 1025, none⟩ = some (.int .i64 y) := by
              have e := (HS.out.bel.cell (p := ⟨b0, off + j * 1025, none⟩) hlt)
              exact (HS2.out.bel.cell (p := ⟨b0, off + j * 1025, none⟩) hlt).trans (e.symm.trans c1)
            clear HA2 HQA
            go_wp2_with (first | (with_reducible refine isLoad 79 ?_; refine wpList_load25 rfl (.tmp 5) rfl w.heap.size rfl b HS.out.box ?_) | refine wpList_exec rfl (HE1.out _ _ _ _ _ rfl rfl rfl) ?_ | refine wpList_exec rfl (exec_slice85 (c := (y, b)) rfl rfl) ?_ | (at_builtin; refine wpList_exec rfl (exec_pushY rfl rfl rfl HR2.out) ?_))
            exact ⟨⟨j + 1, true, acc ++ [(y, b)], by omega, rfl, by go_num, HS2.out, HF.out⟩, by simp [intOf]; omega⟩
          · have hne : (y != k) = true := by simpa using hy
            have HQ2 := Hid.mk' (HQA.out w2 HS2.out.bel)
            have c2 := HQ2.out.1
            dsimp only at c2
            obtain ⟨v3, w3, hr3, hs3⟩ := HS2.out.push (by have := HA2.out.2; rw [List.length_append, List.length_singleton]; omega) (y, f)
            have HR3 := Hid.mk' hr3
            have HS3 := Hid.mk' hs3
            clear hr3 hs3
            have HF := Hid.mk' (show L = (acc ++ [(k, b)] ++ [(y, f)]) ++ laidGo k b true (l.drop (j + 1)) ∧ (acc ++ [(k, b)] ++ [(y, f)]).length ≤ 2 * (j + 1) from ⟨by rw [HA2.out.1]; simp [hp, hy], by have := HA2.out.2; rw [List.length_append, List.length_append, List.length_singleton, List.length_singleton]; omega⟩)
            clear HA2 HQA hy
            go_wp2_with (first | (with_reducible refine isLoad 79 ?_; refine wpList_load25 rfl (.tmp 5) rfl w.heap.size rfl b HS.out.box ?_) | refine wpList_exec rfl (HE1.out _ _ _ _ _ rfl rfl rfl) ?_ | refine wpList_exec rfl (exec_slice85 (c := (k, b)) rfl rfl) ?_ | (at_builtin; refine wpList_exec rfl (exec_pushY rfl rfl rfl HR2.out) ?_) | (with_reducible refine isLoad 81 ?_; refine wpList_exec rfl (exec_load85 (c := (y, f)) rfl rfl HQ2.out) ?_) | refine wpList_exec rfl (exec_slice85 (c := (y, f)) rfl rfl) ?_ | (at_builtin; refine wpList_exec rfl (exec_pushY rfl rfl rfl HR3.out) ?_))
            exact ⟨⟨j + 1, true, acc ++ [(k, b)] ++ [(y, f)], by omega, rfl, by go_num, HS3.out, HF.out⟩, by simp [intOf]; omega⟩
        · have hy : ¬ y = k := by omega
          have hpI : decide (k ≤ y) = false := decide_eq_false hp
          have hne : (y != k) = true := by simpa using hy
          obtain ⟨v2, w2, hr2, hs2⟩ := HS.out.push (by have := HA2.out.2; omega) (y, f)
          have HR2 := Hid.mk' hr2
          have HS2 := Hid.mk' hs2
          clear hr2 hs2
          have HF := Hid.mk' (show L = (acc ++ [(y, f)]) ++ laidGo k b false (l.drop (j + 1)) ∧ (acc ++ [(y, f)]).length ≤ 2 * (j + 1) from ⟨by rw [HA2.out.1]; simp [hp, hy], by have := HA2.out.2; rw [List.length_append, List.length_singleton]; omega⟩)
          clear HA2 HQA hy
          go_wp2_with (first | (with_reducible refine isLoad 81 ?_; refine wpList_exec rfl (exec_load85 (c := (y, f)) rfl rfl HQ.out) ?_) | refine wpList_exec rfl (exec_slice85 (c := (y, f)) rfl rfl) ?_ | (at_builtin; refine wpList_exec rfl (exec_pushY rfl rfl rfl HR2.out) ?_))
          exact ⟨⟨j + 1, false, acc ++ [(y, f)], by omega, rfl, by go_num, HS2.out, HF.out⟩, by simp [intOf]; omega⟩
      · by_cases hy : y = k
        · have HF := Hid.mk' (show L = acc ++ laidGo k b true (l.drop (j + 1)) ∧ acc.length ≤ 2 * (j + 1) from ⟨by rw [HA2.out.1]; simp [hy], by have := HA2.out.2; omega⟩)
          subst hy
          clear HA2 HQA
          go_wp2
          exact ⟨⟨j + 1, true, acc, by omega, rfl, by go_num, HS.out, HF.out⟩, by simp [intOf]; omega⟩
        · have hne : (y != k) = true := by simpa using hy
          obtain ⟨v2, w2, hr2, hs2⟩ := HS.out.push (by have := HA2.out.2; omega) (y, f)
          have HR2 := Hid.mk' hr2
          have HS2 := Hid.mk' hs2
          clear hr2 hs2
          have HF := Hid.mk' (show L = (acc ++ [(y, f)]) ++ laidGo k b true (l.drop (j + 1)) ∧ (acc ++ [(y, f)]).length ≤ 2 * (j + 1) from ⟨by rw [HA2.out.1]; simp [hy], by have := HA2.out.2; rw [List.length_append, List.length_singleton]; omega⟩)
          clear HA2 HQA hy
          go_wp2_with (first | (with_reducible refine isLoad 81 ?_; refine wpList_exec rfl (exec_load85 (c := (y, f)) rfl rfl HQ.out) ?_) | refine wpList_exec rfl (exec_slice85 (c := (y, f)) rfl rfl) ?_ | (at_builtin; refine wpList_exec rfl (exec_pushY rfl rfl rfl HR2.out) ?_))
          exact ⟨⟨j + 1, true, acc ++ [(y, f)], by omega, rfl, by go_num, HS2.out, HF.out⟩, by simp [intOf]; omega⟩
    · have hjN : N = j := by omega
      subst hjN
      have hd : l.drop N = [] := List.drop_eq_nil_of_le (by have := HN.out; omega)
      have hA := HA.out
      rw [hd] at hA
      have HA2 := Hid.mk' hA
      clear hA hd HA
      cases dn
      · obtain ⟨v2, w2, hr2, hs2⟩ := HS.out.push (by have := HA2.out.2; omega) (k, b)
        have HR2 := Hid.mk' hr2
        have HS2 := Hid.mk' hs2
        have HF := Hid.mk' (show L = acc ++ [(k, b)] from HA2.out.1)
        clear hr2 hs2 HA2
        go_wp2_with (first | (with_reducible refine isLoad 79 ?_; refine wpList_load25 rfl (.tmp 5) rfl w.heap.size rfl b HS.out.box ?_) | refine wpList_exec rfl (HE1.out _ _ _ _ _ rfl rfl rfl) ?_ | refine wpList_exec rfl (exec_slice85 (c := (k, b)) rfl rfl) ?_ | (at_builtin; refine wpList_exec rfl (exec_pushY rfl rfl rfl HR2.out) ?_))
        go_ret
        exact ⟨_, rfl, by rw [HF.out]; exact HS2.out.own, HS2.out.bel⟩
      · have HF := Hid.mk' (show L = acc from by rw [HA2.out.1]; exact List.append_nil acc)
        clear HA2
        go_wp2
        go_ret
        exact ⟨_, rfl, by rw [HF.out]; exact HS.out.own, HS.out.bel⟩
end Go.Proofs.YtlcdpmjdnihocaaGreatD
/- The document's at: a block of a list; lists of at most a million. -/
namespace Go.Proofs.YtlcdpmjdnihocaaGreatD
open Go.RowKit Go.Maps
theorem exec_ldBlk {o : Oper} {a : Act} {W : World} {x : Operand} {g off : Nat} {f : Nat → Int} (ho : o.op = .load 79 x) (hx : a.eval x = .pointer (some ⟨g, off, none⟩)) (h : BlkAt W g off f) : (execOp a.eval o).run Tryz.prog W = .ok (.value (.agg (blk f))) W := by
  have e := loadM h
  generalize blk f = Z at *
  unfold execOp
  simp only [ho, hx, e, Sem.run_bind, Result.andThen_ok, Sem.run_pure]
theorem atL_at (k y : Int) (f : Nat → Int) (t : List Cel) : atL ((y, f) :: t) k = if y = k then f else atL t k := rfl
end Go.Proofs.YtlcdpmjdnihocaaGreatD
/- The document's Read: a block as it was written last; lists of at most a thousand million. -/
namespace Go.Proofs.YtlcdpmjdnihocaaGreatD
open Go.RowKit Go.Maps
variable {w : World} {B g : Nat} {hv wv ov : Value} {s : RSt}
/-- Why it refuses a block. -/
def rRefV (s : RSt) (k : Int) : Int := if s.dead then 3 else if 0 ≤ k ∧ k < s.n then 0 else 2
/-- A block as it was written last. -/
def rCur (s : RSt) (k : Int) : Nat → Int := match lastAt s.wait k with
  | some i => match s.wait[i]? with
    | some c => c.2
    | none => nought
  | none => atL s.held k
theorem rCur_wait {k : Int} {i : Nat} {c : Cel} (h : lastAt s.wait k = some i) (hc : s.wait[i]? = some c) : rCur s k = c.2 := by
  unfold rCur
  rw [h]
  simp only [hc]
theorem rCur_held {k : Int} (h : lastAt s.wait k = none) : rCur s k = atL s.held k := by
  unfold rCur
  rw [h]
theorem rRefV_ok {k : Int} (h : rRefV s k = 0) : s.dead = false ∧ 0 ≤ k ∧ k < s.n := by
  unfold rRefV at h
  cases hs : s.dead
  · rw [hs] at h
    simp only [Bool.false_eq_true, if_false] at h
    by_cases hk : 0 ≤ k ∧ k < s.n
    · exact ⟨rfl, hk⟩
    · rw [if_neg hk] at h; omega
  · rw [hs] at h; simp at h
/-- A block's place beside the disk is written. -/
theorem RDAt.box (h : RDAt w B g hv wv ov s) {q : Nat} {Z : Array Value} (hq : w.heap[q]? = some (.cells Z 79)) (cs : Array Value) : RDAt (w.setRow q cs) B g hv wv ov s :=
  ⟨(setRow_other w q g cs (box_ne h.row hq (by decide))).trans h.row, own_other h.held (own_ne h.held hq (by decide)) cs, own_other h.wait (own_ne h.wait hq (by decide)) cs, own_other h.ops (own_ne h.ops hq (by decide)) cs, h.two, h.base⟩
end Go.Proofs.YtlcdpmjdnihocaaGreatD
/- The document's disk: one more is pending, one more stands in the history; lists of at most ten million. -/
namespace Go.Proofs.YtlcdpmjdnihocaaGreatD
open Go.RowKit Go.Maps
/-- The blocks of the document's disk. -/
def RHas (g : Nat) (hv wv ov : Value) (b : Nat) : Prop := b = g ∨ hv.ownBlock = some b ∨ wv.ownBlock = some b ∨ ov.ownBlock = some b
/-- From one state to the next: nothing turns but the disk's own blocks; its lists lie where they lay, or are new. -/
structure RTo (g : Nat) (hv wv ov hv' wv' ov' : Value) (w w' : World) : Prop where
  fr : Fr (RHas g hv wv ov) w w'
  loc : ∀ b, RHas g hv' wv' ov' b → RHas g hv wv ov b ∨ w.heap.size ≤ b
theorem RTo.trans {g : Nat} {a1 a2 a3 b1 b2 b3 c1 c2 c3 : Value} {u v w : World} (h : RTo g a1 a2 a3 b1 b2 b3 u v) (k : RTo g b1 b2 b3 c1 c2 c3 v w) : RTo g a1 a2 a3 c1 c2 c3 u w :=
  ⟨h.fr.trans k.fr fun i hi q => (h.loc i q).elim id fun r => absurd hi (by omega), fun b q => (k.loc b q).elim (h.loc b) fun r => .inr (by have := h.fr.size; omega)⟩
theorem RTo.ofFr {g : Nat} {hv wv ov : Value} {w w' : World} (h : Fr (fun i => i = g) w w') : RTo g hv wv ov hv wv ov w w' := ⟨h.mono fun _ _ q => .inl q, fun _ q => .inl q⟩
theorem RTo.drew {g : Nat} {hv wv ov hv' wv' ov' : Value} {w w' : World} (h : RTo g hv wv ov hv' wv' ov' w w') : RTo g hv wv ov hv' wv' ov' w w'.drew := ⟨h.fr.trans (Fr.drew (T := fun _ => False) w') fun _ _ q => q.elim, h.loc⟩
theorem RTo.stepW {g : Nat} {hv wv ov v : Value} {V W : World} (hf : Fr (fun i => wv.ownBlock = some i) V W) (hor : ∀ k, v.ownBlock = some k → wv.ownBlock = some k ∨ V.heap.size ≤ k) : RTo g hv wv ov hv v ov V (W.setCell ⟨g, 2, none⟩ v) :=
  ⟨(hf.mono fun _ _ q => .inr (.inr (.inl q))).trans (Fr.setCell W g 2 v) fun _ _ q => .inl q, fun b q => by
    rcases q with q | q | q | q
    · exact .inl (.inl q)
    · exact .inl (.inr (.inl q))
    · exact (hor b q).elim (fun r => .inl (.inr (.inr (.inl r)))) .inr
    · exact .inl (.inr (.inr (.inr q)))⟩
theorem RTo.stepO {g : Nat} {hv wv ov v : Value} {V W : World} (hf : Fr (fun i => ov.ownBlock = some i) V W) (hor : ∀ k, v.ownBlock = some k → ov.ownBlock = some k ∨ V.heap.size ≤ k) : RTo g hv wv ov hv wv v V (W.setCell ⟨g, 6, none⟩ v) :=
  ⟨(hf.mono fun _ _ q => .inr (.inr (.inr q))).trans (Fr.setCell W g 6 v) fun _ _ q => .inl q, fun b q => by
    rcases q with q | q | q | q
    · exact .inl (.inl q)
    · exact .inl (.inr (.inl q))
    · exact .inl (.inr (.inr (.inl q)))
    · exact (hor b q).elim (fun r => .inl (.inr (.inr (.inr r)))) .inr⟩
/-- What a barrier turns. -/
def Tco (g : Nat) (ov : Value) (i : Nat) : Prop := i = g ∨ ov.ownBlock = some i
def RWrP (B g : Nat) (hv wv ov : Value) (t : RSt) (w w' : World) : Prop := ∃ wv' ov', RDAt w' B g hv wv' ov' t ∧ RTo g hv wv ov hv wv' ov' w w'
def RBarP (B g : Nat) (hv ov : Value) (t : RSt) (w w' : World) : Prop := ∃ hv' ov', RDAt w' B g hv' (.slice none 0 0) ov' t ∧ Fr (Tco g ov) w w' ∧ (∀ b, hv'.ownBlock = some b → hv.ownBlock = some b ∨ w.heap.size ≤ b) ∧ ∀ b, ov'.ownBlock = some b → ov.ownBlock = some b ∨ w.heap.size ≤ b
def RCrP (B g : Nat) (hv : Value) (t : RSt) (w w' : World) : Prop := ∃ hv', RDAt w' B g hv' (.slice none 0 0) (.slice none 0 0) t ∧ Fr (fun i => i = g) w w' ∧ ∀ b, hv'.ownBlock = some b → hv.ownBlock = some b ∨ w.heap.size ≤ b
theorem Fr.drewF {T : Nat → Prop} {a b : World} (h : Fr T a b) : Fr T a b.drew := h.trans (Fr.drew (T := fun _ => False) b) fun _ _ q => q.elim
section
variable {w V : World} {B g : Nat} {hv wv ov : Value} {s : RSt}
theorem RDAt.lt (h : RDAt w B g hv wv ov s) : g < w.heap.size := (Array.getElem?_eq_some_iff.1 h.row).1
/-- One more is pending. -/
theorem RDAt.pushW (h : RDAt V B g hv wv ov s) (hl : s.wait.length ≤ 10000000) (x : Cel) :
    ∃ v' W5, (Builtin.append_ #[22, 22] 22 #[wv, .slice (some ⟨V.heap.size, 0, none⟩) 1 1]).run Tryz.prog (V.alloc (.cells (celRow x).toArray 81)) = .ok v' W5 ∧ W5.heap[g]? = some (.cells (rdRow hv wv ov s) 75) ∧ Below B V W5 ∧ Fr (fun i => wv.ownBlock = some i) V W5 ∧ (∀ k, v'.ownBlock = some k → wv.ownBlock = some k ∨ V.heap.size ≤ k) ∧
      RDAt (W5.setCell ⟨g, 2, none⟩ v') B g hv v' ov { s with wait := s.wait ++ [x] } := by
  obtain ⟨v', W5, hr, ho, hb, hF, hor⟩ := HL.push (show HL B V wv s.wait from h.wait) (by have := h.base; have := h.lt; omega) (by omega) x 22
  have hrow : W5.heap[g]? = some (.cells (rdRow hv wv ov s) 75) := (hF.block g h.lt (own_ne h.wait h.row (by decide))).trans h.row
  refine ⟨v', W5, hr, hrow, hb, hF, hor, ?_, ?_, ?_, ?_, ?_, h.base⟩
  · rw [heap_setCell_same W5 g 2 _ 75 v' hrow]; rfl
  · exact ownsRow_setCell_other (own_frame h.held hF fun i q1 q2 => h.two i q1 q2) (a := ⟨g, 2, none⟩) (own_ne (own_frame h.held hF fun i q1 q2 => h.two i q1 q2) hrow (by decide)) v'
  · exact ownsRow_setCell_other ho (a := ⟨g, 2, none⟩) (own_ne ho hrow (by decide)) v'
  · have ho2 := own_frame h.ops hF fun i q1 q2 => rows_apart (by decide) h.wait q2 h.ops q1
    exact ownsRow_setCell_other ho2 (a := ⟨g, 2, none⟩) (own_ne ho2 hrow (by decide)) v'
  · intro b q1 q2
    rcases hor b q2 with q | q
    · exact h.two b q1 q
    · have := (h.held.lt b q1).2
      omega
/-- One more stands in the history. -/
theorem RDAt.pushO (h : RDAt V B g hv wv ov s) (hl : s.ops.length ≤ 10000000) (x : Rec) :
    ∃ v' W5, (Builtin.append_ #[42, 42] 42 #[ov, .slice (some ⟨V.heap.size, 0, none⟩) 1 1]).run Tryz.prog (V.alloc (.cells (recCells x).toArray 94)) = .ok v' W5 ∧ W5.heap[g]? = some (.cells (rdRow hv wv ov s) 75) ∧ Below B V W5 ∧ Fr (fun i => ov.ownBlock = some i) V W5 ∧ (∀ k, v'.ownBlock = some k → ov.ownBlock = some k ∨ V.heap.size ≤ k) ∧
      RDAt (W5.setCell ⟨g, 6, none⟩ v') B g hv wv v' { s with ops := s.ops ++ [x] } := by
  obtain ⟨i0, hi0, hz0, hz1, hz2⟩ := info_parts info108
  obtain ⟨v', W5, hr, ho, hb, hF, hor⟩ := own_pushL recCells_len recCells_one Tryz.underlying42 hi0 hz0 hz1 hz2 (rec_size ⟨0, 0, nought⟩) (by omega) (by omega) h.ops (by have := h.base; have := h.lt; omega) (by omega) x 42
  have hrow : W5.heap[g]? = some (.cells (rdRow hv wv ov s) 75) := (hF.block g h.lt (own_ne h.ops h.row (by decide))).trans h.row
  have ho1 := own_frame h.held hF fun i q1 q2 => rows_apart (by decide) h.ops q2 h.held q1
  have ho2 := own_frame h.wait hF fun i q1 q2 => rows_apart (by decide) h.ops q2 h.wait q1
  refine ⟨v', W5, hr, hrow, hb, hF, hor, ?_, ?_, ?_, ?_, h.two, h.base⟩
  · rw [heap_setCell_same W5 g 6 _ 75 v' hrow]; rfl
  · exact ownsRow_setCell_other ho1 (a := ⟨g, 6, none⟩) (own_ne ho1 hrow (by decide)) v'
  · exact ownsRow_setCell_other ho2 (a := ⟨g, 6, none⟩) (own_ne ho2 hrow (by decide)) v'
  · exact ownsRow_setCell_other ho (a := ⟨g, 6, none⟩) (own_ne ho hrow (by decide)) v'
theorem RDAt.drew (h : RDAt V B g hv wv ov s) : RDAt V.drew B g hv wv ov s := ⟨h.row, own_frame h.held (Fr.drew (T := fun _ => False) V) fun _ _ q => q, own_frame h.wait (Fr.drew (T := fun _ => False) V) fun _ _ q => q, own_frame h.ops (Fr.drew (T := fun _ => False) V) fun _ _ q => q, h.two, h.base⟩
theorem rLets_wait (s : RSt) : (rLets s).wait = s.wait := by unfold rLets; split; (split <;> rfl); rfl
theorem rLets_ops (s : RSt) : (rLets s).ops = s.ops := by unfold rLets; split; (split <;> rfl); rfl
theorem rLets_held (s : RSt) : (rLets s).held = s.held := by unfold rLets; split; (split <;> rfl); rfl
end
end Go.Proofs.YtlcdpmjdnihocaaGreatD
/- The document's Write: a block is pending behind all that is, and stands in the history; lists of at most ten million. -/
namespace Go.Proofs.YtlcdpmjdnihocaaGreatD
open Go.RowKit Go.Maps
variable {w : World} {B g : Nat} {hv wv ov : Value} {s : RSt}
/-- What Write does. -/
def rWriteS (s : RSt) (k : Int) (f : Nat → Int) : RSt := { rLets s with wait := (rLets s).wait ++ [(k, f)], ops := (rLets s).ops ++ [⟨1, k, f⟩] }
set_option maxRecDepth 20000 in
theorem rWrite_bad (h : RDAt w B g hv wv ov s) {k : Int} (hb : rRefV s k ≠ 0) (f : Nat → Int) :
    Calls Tryz.prog 44 #[.pointer (some ⟨g, 0, none⟩), .int .i64 k, .agg (blk f)] w fun e w' => e = .returned (.int .i64 (rRefV s k)) ∧ RDAt w' B g hv wv ov s ∧ Below w.heap.size w w' := by
  have H1 := Hid.mk' (h.later (below_new w (.cells (blk f) 79)))
  have HB := Hid.mk' (below_new w (.cells (blk f) 79))
  have c0 := H1.out.cells.1
  have c5 := H1.out.cells.2.2.2.2.2.1
  unfold rRefV at hb ⊢
  clear h
  cases hd : s.dead
  · rw [hd] at c5 hb
    simp only [Bool.false_eq_true, if_false] at hb ⊢
    have hk : ¬ (0 ≤ k ∧ k < s.n) := fun q => hb (by rw [if_pos q])
    rw [if_neg hk]
    clear hb
    by_cases h0 : k < 0
    all_goals
      go_enter Tryz.func44, Tryz.ntmps44
      go_wp2
      go_ret
      exact ⟨rfl, H1.out, HB.out⟩
  · rw [hd] at c5
    clear hb
    simp only [if_true]
    go_enter Tryz.func44, Tryz.ntmps44
    go_wp2
    go_ret
    exact ⟨rfl, H1.out, HB.out⟩
set_option maxRecDepth 20000 in
theorem rWrite_dead (h : RDAt w B g hv wv ov s) {k : Int} (hb : rRefV s k = 0) (hL : rLetsB s = false) (hl : s.fused = true → 0 ≤ s.left ∧ s.left ≤ 9223372036854775807) (hc : 0 ≤ s.count ∧ s.count < 9223372036854775807) (f : Nat → Int) :
    Calls Tryz.prog 44 #[.pointer (some ⟨g, 0, none⟩), .int .i64 k, .agg (blk f)] w fun e w' => e = .returned (.int .i64 3) ∧ RDAt w' B g hv wv ov (rLets s) ∧ Fr (fun i => i = g) w w' := by
  obtain ⟨hd, hk0, hk1⟩ := rRefV_ok hb
  have h1 := h.later (below_new w (.cells (blk f) 79))
  have c0 := h1.cells.1
  have c5 := h1.cells.2.2.2.2.2.1
  rw [hd] at c5
  have hT := rLets_any h1 hl hc
  rw [hL] at hT
  have HF := Hid.mk' (Fr.alloc (fun i => i = g) w (.cells (blk f) 79))
  clear h h1 hb hl hc
  go_enter Tryz.func44, Tryz.ntmps44
  go_wp2_with (go_at_call 65; fail)
  refine hT.mono ?_
  rintro e W ⟨rfl, hD, hF⟩
  have HD := Hid.mk' hD
  have HF2 := Hid.mk' (HF.out.trans hF fun _ _ q => q)
  clear hD hF HF
  go_wp2
  go_ret
  exact ⟨rfl, HD.out, HF2.out⟩
set_option maxRecDepth 20000 in
set_option maxHeartbeats 4000000 in
theorem rWrite_ok (h : RDAt w B g hv wv ov s) {k : Int} (hb : rRefV s k = 0) (hL : rLetsB s = true) (hl : s.fused = true → 0 ≤ s.left ∧ s.left ≤ 9223372036854775807) (hc : 0 ≤ s.count ∧ s.count < 9223372036854775807) (hlw : s.wait.length ≤ 10000000) (hlo : s.ops.length ≤ 10000000) (f : Nat → Int) :
    Calls Tryz.prog 44 #[.pointer (some ⟨g, 0, none⟩), .int .i64 k, .agg (blk f)] w fun e w' => e = .returned (.int .i64 0) ∧ RWrP B g hv wv ov (rWriteS s k f) w w' := by
  obtain ⟨hd, hk0, hk1⟩ := rRefV_ok hb
  have h1 := h.later (below_new w (.cells (blk f) 79))
  have hX := heap_alloc_new w (.cells (blk f) 79)
  have c0 := h1.cells.1
  have c5 := h1.cells.2.2.2.2.2.1
  rw [hd] at c5
  have hT := rLets_any h1 hl hc
  rw [hL] at hT
  have hlt := h.lt
  have HF := Hid.mk' (Fr.alloc (fun i => i = g) w (.cells (blk f) 79))
  have hl1 : (rLets s).wait.length ≤ 10000000 := by rw [rLets_wait]; exact hlw
  have hl2 : (rLets s).ops.length ≤ 10000000 := by rw [rLets_ops]; exact hlo
  clear h h1 hb hl hc
  go_enter Tryz.func44, Tryz.ntmps44
  go_wp2_with (go_at_call 65; fail)
  refine hT.mono ?_
  rintro e W ⟨rfl, hD, hF⟩
  have hX1 : W.heap[w.heap.size]? = some (.cells (blk f) 79) := (hF.block w.heap.size (by simp) (by omega)).trans hX
  have HF2 := Hid.mk' (RTo.ofFr (hv := hv) (wv := wv) (ov := ov) (HF.out.trans hF fun _ _ q => q))
  have HD := Hid.mk' hD
  clear hF HF hX c0 c5 hT hD
  generalize hS : rLets s = S at *
  generalize hg0 : w.heap.size = g0 at *
  go_wp2
  have D9 := HD.out.drew
  have X9 : W.drew.heap[g0]? = some (.cells (blk f) 79) := hX1
  have B9 := Hid.mk' HF2.out.drew
  refine wp_region_fork (S := fun u => u.heap[g0]? = some (.cells (blk f) 79)) [0, 1, 2, 3, 5, 6, 7] 4 8 [(9, false), (10, true), (11, true), (12, false)] (by kernel_rfl) rfl (by kernel_rfl) (fun d _ _ _ _ h => by cases d <;> exact h) X9 ?_
  try simp only [Act.put]
  generalize W.drew = V9 at *
  refine wpFork_yield (v := .pointer (some ⟨g, 0, none⟩)) rfl rfl (fun u _ => by simp [execOp, Act.eval]) ?_
  simp only [Act.put, List.setIfInBounds_toArray, List.set_cons_succ, List.set_cons_zero]
  refine wpFork_yield (v := .pointer (some ⟨g, 0, none⟩)) rfl rfl (fun u _ => by simp [execOp, Act.eval]) ?_
  simp only [Act.put, List.setIfInBounds_toArray, List.set_cons_succ, List.set_cons_zero]
  refine wpFork_yield (v := .pointer (some ⟨g, 0, none⟩)) rfl rfl (fun u _ => by go_simp) ?_
  simp only [Act.put, List.setIfInBounds_toArray, List.set_cons_succ, List.set_cons_zero]
  refine wpFork_yield (v := .pointer (some ⟨g, 2, none⟩)) rfl rfl (fun u _ => by go_simp) ?_
  simp only [Act.put, List.setIfInBounds_toArray, List.set_cons_succ, List.set_cons_zero]
  refine wpFork_yield (v := .int .i64 k) rfl rfl (fun u _ => by simp [execOp, Act.eval]) ?_
  simp only [Act.put, List.setIfInBounds_toArray, List.set_cons_succ, List.set_cons_zero]
  refine wpFork_yield (v := .agg (blk f)) rfl rfl (fun u hu => by
    unfold execOp
    simp only [Act.eval]
    have e := loadM (BlkAt.of hu)
    change Sem.run Tryz.prog (Instr.loadAt 79 (.pointer (some ⟨g0, 0, none⟩)) >>= fun v => pure (Next.value v)) u = _
    simp only [Sem.run_bind, e, Result.andThen_ok, Sem.run_pure]) ?_
  simp only [Act.put, List.setIfInBounds_toArray, List.set_cons_succ, List.set_cons_zero]
  refine wpFork_yield (v := .agg (celRow (k, f)).toArray) rfl rfl (fun u hu => by
    have e := build85 k f u
    simp [execOp, Act.eval, e]) ?_
  simp only [Act.put, List.setIfInBounds_toArray, List.set_cons_succ, List.set_cons_zero]
  obtain ⟨v9, W9, hr9, hw9, hb9, hf9, ho9, hE9⟩ := D9.pushW hl1 (k, f)
  obtain ⟨aa9, am9, ac9, rfl⟩ : ∃ a m c, v9 = Value.slice a m c := by obtain ⟨p, c, e, _⟩ := own_slice hE9.wait; exact ⟨_, _, _, e⟩
  have E9 := Hid.mk' hE9
  have k9 : W9.cell? ⟨g, 2, none⟩ = some wv := Joins.cell_of_block hw9 2
  have z9 : W9.frozen? ⟨g, 2, none⟩ = false := Joins.unfrozen_of_block hw9 2
  have c9 : V9.cell? ⟨g, 2, none⟩ = some wv := Joins.cell_of_block D9.row 2
  have c9' : (V9.alloc (.cells (celRow (k, f)).toArray 81)).cell? ⟨g, 2, none⟩ = some wv := by rw [World.cell?_alloc_past _ _ _ D9.lt]; exact c9
  have S1 := heap_kept X9 (below_new V9 (.cells (celRow (k, f)).toArray 81))
  have S5 : W9.heap[g0]? = some (.cells (blk f) 79) := (hf9.block g0 (Array.getElem?_eq_some_iff.1 X9).1 (own_ne D9.wait X9 (by decide))).trans X9
  have S6 : (W9.setCell ⟨g, 2, none⟩ (.slice aa9 am9 ac9)).heap[g0]? = some (.cells (blk f) 79) := (Below.heap_setCell _ _ _ _ (by show g0 ≠ g; omega)).trans S5
  have B9' := Hid.mk' (B9.out.trans (RTo.stepW hf9 ho9))
  have hbs := build30 (k, f) V9
  obtain ⟨p9, q9, e9, -⟩ := own_slice D9.wait
  have hlen9 := hl1
  rw [e9] at hr9 k9 c9 c9'
  clear hE9 hw9 hb9 hf9 ho9 D9 B9
  generalize hrc9 : (celRow (k, f)).toArray = RC9 at *
  generalize hlm9 : S.wait.length = m9 at *
  refine wpFork_nil rfl rfl ?_ ?_
  · simp only [inOrd, List.getElem?_cons_zero, List.getElem?_cons_succ]
    refine wpOrd_run (v := .slice p9 m9 q9) (w' := V9) rfl (by go_simp) X9 ?_
    simp only [Act.put, List.setIfInBounds_toArray, List.set_cons_succ, List.set_cons_zero]
    refine wpOrd_run (v := .slice (some ⟨V9.heap.size, 0, none⟩) 1 1) (w' := V9.alloc (.cells RC9 81)) rfl (by simp [execOp, Act.eval, hbs]) S1 ?_
    simp only [Act.put, List.setIfInBounds_toArray, List.set_cons_succ, List.set_cons_zero]
    refine wpOrd_run (v := .slice aa9 am9 ac9) (w' := W9) rfl (by simp [execOp, Act.eval, resolve, invoke, builtin, hr9, Result.andThen]) S5 ?_
    simp only [Act.put, List.setIfInBounds_toArray, List.set_cons_succ, List.set_cons_zero]
    refine wpOrd_yield (v := .pointer (some ⟨g, 0, none⟩)) rfl (fun u _ => by go_simp) ?_
    simp only [Act.put, List.setIfInBounds_toArray, List.set_cons_succ, List.set_cons_zero]
    refine wpOrd_yield (v := .pointer (some ⟨g, 2, none⟩)) rfl (fun u _ => by go_simp) ?_
    simp only [Act.put, List.setIfInBounds_toArray, List.set_cons_succ, List.set_cons_zero]
    refine wpOrd_do (w' := W9.setCell ⟨g, 2, none⟩ (.slice aa9 am9 ac9)) rfl (by go_simp) S6 ?_
    refine wpOrd_nil ?_
    simp only [Act.put]
    clear hr9 S1 S5 k9 z9 c9 c9' hbs hrc9
    generalize W9.setCell ⟨g, 2, none⟩ (.slice aa9 am9 ac9) = Y9 at *
    go_wp2
    have D10 := E9.out.drew
    have X10 : Y9.drew.heap[g0]? = some (.cells (blk f) 79) := S6
    have B10 := Hid.mk' B9'.out.drew
    refine wp_region_fork (S := fun u => u.heap[g0]? = some (.cells (blk f) 79)) [0, 1, 2, 3, 5, 6, 7] 4 8 [(9, false), (10, true), (11, true), (12, false)] (by kernel_rfl) rfl (by kernel_rfl) (fun d _ _ _ _ h => by cases d <;> exact h) X10 ?_
    try simp only [Act.put]
    generalize Y9.drew = V10 at *
    refine wpFork_yield (v := .pointer (some ⟨g, 0, none⟩)) rfl rfl (fun u _ => by simp [execOp, Act.eval]) ?_
    simp only [Act.put, List.setIfInBounds_toArray, List.set_cons_succ, List.set_cons_zero]
    refine wpFork_yield (v := .pointer (some ⟨g, 0, none⟩)) rfl rfl (fun u _ => by simp [execOp, Act.eval]) ?_
    simp only [Act.put, List.setIfInBounds_toArray, List.set_cons_succ, List.set_cons_zero]
    refine wpFork_yield (v := .pointer (some ⟨g, 0, none⟩)) rfl rfl (fun u _ => by go_simp) ?_
    simp only [Act.put, List.setIfInBounds_toArray, List.set_cons_succ, List.set_cons_zero]
    refine wpFork_yield (v := .pointer (some ⟨g, 6, none⟩)) rfl rfl (fun u _ => by go_simp) ?_
    simp only [Act.put, List.setIfInBounds_toArray, List.set_cons_succ, List.set_cons_zero]
    refine wpFork_yield (v := .int .i64 k) rfl rfl (fun u _ => by simp [execOp, Act.eval]) ?_
    simp only [Act.put, List.setIfInBounds_toArray, List.set_cons_succ, List.set_cons_zero]
    refine wpFork_yield (v := .agg (blk f)) rfl rfl (fun u hu => by
      unfold execOp
      simp only [Act.eval]
      have e := loadM (BlkAt.of hu)
      change Sem.run Tryz.prog (Instr.loadAt 79 (.pointer (some ⟨g0, 0, none⟩)) >>= fun v => pure (Next.value v)) u = _
      simp only [Sem.run_bind, e, Result.andThen_ok, Sem.run_pure]) ?_
    simp only [Act.put, List.setIfInBounds_toArray, List.set_cons_succ, List.set_cons_zero]
    refine wpFork_yield (v := .agg (recCells ⟨1, k, f⟩).toArray) rfl rfl (fun u hu => by
      have e := build108 1 k f u
      simp [execOp, Act.eval, e]) ?_
    simp only [Act.put, List.setIfInBounds_toArray, List.set_cons_succ, List.set_cons_zero]
    obtain ⟨v10, W10, hr10, hw10, hb10, hf10, ho10, hE10⟩ := D10.pushO hl2 ⟨1, k, f⟩
    obtain ⟨aa10, am10, ac10, rfl⟩ : ∃ a m c, v10 = Value.slice a m c := by obtain ⟨p, c, e, _⟩ := own_slice hE10.ops; exact ⟨_, _, _, e⟩
    have E10 := Hid.mk' hE10
    have k10 : W10.cell? ⟨g, 6, none⟩ = some ov := Joins.cell_of_block hw10 6
    have z10 : W10.frozen? ⟨g, 6, none⟩ = false := Joins.unfrozen_of_block hw10 6
    have c10 : V10.cell? ⟨g, 6, none⟩ = some ov := Joins.cell_of_block D10.row 6
    have c10' : (V10.alloc (.cells (recCells ⟨1, k, f⟩).toArray 94)).cell? ⟨g, 6, none⟩ = some ov := by rw [World.cell?_alloc_past _ _ _ D10.lt]; exact c10
    have S1 := heap_kept X10 (below_new V10 (.cells (recCells ⟨1, k, f⟩).toArray 94))
    have S5 : W10.heap[g0]? = some (.cells (blk f) 79) := (hf10.block g0 (Array.getElem?_eq_some_iff.1 X10).1 (own_ne D10.ops X10 (by decide))).trans X10
    have S6 : (W10.setCell ⟨g, 6, none⟩ (.slice aa10 am10 ac10)).heap[g0]? = some (.cells (blk f) 79) := (Below.heap_setCell _ _ _ _ (by show g0 ≠ g; omega)).trans S5
    have B10' := Hid.mk' (B10.out.trans (RTo.stepO hf10 ho10))
    have hbs := build67 ⟨1, k, f⟩ V10
    obtain ⟨p10, q10, e10, -⟩ := own_slice D10.ops
    have hlen10 := hl2
    rw [e10] at hr10 k10 c10 c10'
    clear hE10 hw10 hb10 hf10 ho10 D10 B10
    generalize hrc10 : (recCells ⟨1, k, f⟩).toArray = RC10 at *
    generalize hlm10 : S.ops.length = m10 at *
    refine wpFork_nil rfl rfl ?_ ?_
    · simp only [inOrd, List.getElem?_cons_zero, List.getElem?_cons_succ]
      refine wpOrd_run (v := .slice p10 m10 q10) (w' := V10) rfl (by go_simp) X10 ?_
      simp only [Act.put, List.setIfInBounds_toArray, List.set_cons_succ, List.set_cons_zero]
      refine wpOrd_run (v := .slice (some ⟨V10.heap.size, 0, none⟩) 1 1) (w' := V10.alloc (.cells RC10 94)) rfl (by simp [execOp, Act.eval, hbs]) S1 ?_
      simp only [Act.put, List.setIfInBounds_toArray, List.set_cons_succ, List.set_cons_zero]
      refine wpOrd_run (v := .slice aa10 am10 ac10) (w' := W10) rfl (by simp [execOp, Act.eval, resolve, invoke, builtin, hr10, Result.andThen]) S5 ?_
      simp only [Act.put, List.setIfInBounds_toArray, List.set_cons_succ, List.set_cons_zero]
      refine wpOrd_yield (v := .pointer (some ⟨g, 0, none⟩)) rfl (fun u _ => by go_simp) ?_
      simp only [Act.put, List.setIfInBounds_toArray, List.set_cons_succ, List.set_cons_zero]
      refine wpOrd_yield (v := .pointer (some ⟨g, 6, none⟩)) rfl (fun u _ => by go_simp) ?_
      simp only [Act.put, List.setIfInBounds_toArray, List.set_cons_succ, List.set_cons_zero]
      refine wpOrd_do (w' := W10.setCell ⟨g, 6, none⟩ (.slice aa10 am10 ac10)) rfl (by go_simp) S6 ?_
      refine wpOrd_nil ?_
      simp only [Act.put]
      clear hr10 S1 S5 k10 z10 c10 c10' hbs hrc10
      generalize W10.setCell ⟨g, 6, none⟩ (.slice aa10 am10 ac10) = Y10 at *
      have e := E10.out
      have e2 : RWrP B g hv wv ov (rWriteS s k f) w Y10 := ⟨_, _, by unfold rWriteS; rw [hS]; exact e, B10'.out⟩
      have HE := Hid.mk' e2
      clear e e2 E10 E9
      go_wp2
      go_ret
      exact ⟨rfl, HE.out⟩
    · simp only [inOrd, List.getElem?_cons_zero, List.getElem?_cons_succ]
      refine wpOrd_run (v := .slice (some ⟨V10.heap.size, 0, none⟩) 1 1) (w' := V10.alloc (.cells RC10 94)) rfl (by simp [execOp, Act.eval, hbs]) S1 ?_
      simp only [Act.put, List.setIfInBounds_toArray, List.set_cons_succ, List.set_cons_zero]
      refine wpOrd_run (v := .slice p10 m10 q10) (w' := V10.alloc (.cells RC10 94)) rfl (by go_simp) S1 ?_
      simp only [Act.put, List.setIfInBounds_toArray, List.set_cons_succ, List.set_cons_zero]
      refine wpOrd_run (v := .slice aa10 am10 ac10) (w' := W10) rfl (by simp [execOp, Act.eval, resolve, invoke, builtin, hr10, Result.andThen]) S5 ?_
      simp only [Act.put, List.setIfInBounds_toArray, List.set_cons_succ, List.set_cons_zero]
      refine wpOrd_yield (v := .pointer (some ⟨g, 0, none⟩)) rfl (fun u _ => by go_simp) ?_
      simp only [Act.put, List.setIfInBounds_toArray, List.set_cons_succ, List.set_cons_zero]
      refine wpOrd_yield (v := .pointer (some ⟨g, 6, none⟩)) rfl (fun u _ => by go_simp) ?_
      simp only [Act.put, List.setIfInBounds_toArray, List.set_cons_succ, List.set_cons_zero]
      refine wpOrd_do (w' := W10.setCell ⟨g, 6, none⟩ (.slice aa10 am10 ac10)) rfl (by go_simp) S6 ?_
      refine wpOrd_nil ?_
      simp only [Act.put]
      clear hr10 S1 S5 k10 z10 c10 c10' hbs hrc10
      generalize W10.setCell ⟨g, 6, none⟩ (.slice aa10 am10 ac10) = Y10 at *
      have e := E10.out
      have e2 : RWrP B g hv wv ov (rWriteS s k f) w Y10 := ⟨_, _, by unfold rWriteS; rw [hS]; exact e, B10'.out⟩
      have HE := Hid.mk' e2
      clear e e2 E10 E9
      go_wp2
      go_ret
      exact ⟨rfl, HE.out⟩
  · simp only [inOrd, List.getElem?_cons_zero, List.getElem?_cons_succ]
    refine wpOrd_run (v := .slice (some ⟨V9.heap.size, 0, none⟩) 1 1) (w' := V9.alloc (.cells RC9 81)) rfl (by simp [execOp, Act.eval, hbs]) S1 ?_
    simp only [Act.put, List.setIfInBounds_toArray, List.set_cons_succ, List.set_cons_zero]
    refine wpOrd_run (v := .slice p9 m9 q9) (w' := V9.alloc (.cells RC9 81)) rfl (by go_simp) S1 ?_
    simp only [Act.put, List.setIfInBounds_toArray, List.set_cons_succ, List.set_cons_zero]
    refine wpOrd_run (v := .slice aa9 am9 ac9) (w' := W9) rfl (by simp [execOp, Act.eval, resolve, invoke, builtin, hr9, Result.andThen]) S5 ?_
    simp only [Act.put, List.setIfInBounds_toArray, List.set_cons_succ, List.set_cons_zero]
    refine wpOrd_yield (v := .pointer (some ⟨g, 0, none⟩)) rfl (fun u _ => by go_simp) ?_
    simp only [Act.put, List.setIfInBounds_toArray, List.set_cons_succ, List.set_cons_zero]
    refine wpOrd_yield (v := .pointer (some ⟨g, 2, none⟩)) rfl (fun u _ => by go_simp) ?_
    simp only [Act.put, List.setIfInBounds_toArray, List.set_cons_succ, List.set_cons_zero]
    refine wpOrd_do (w' := W9.setCell ⟨g, 2, none⟩ (.slice aa9 am9 ac9)) rfl (by go_simp) S6 ?_
    refine wpOrd_nil ?_
    simp only [Act.put]
    clear hr9 S1 S5 k9 z9 c9 c9' hbs hrc9
    generalize W9.setCell ⟨g, 2, none⟩ (.slice aa9 am9 ac9) = Y9 at *
    go_wp2
    have D10 := E9.out.drew
    have X10 : Y9.drew.heap[g0]? = some (.cells (blk f) 79) := S6
    have B10 := Hid.mk' B9'.out.drew
    refine wp_region_fork (S := fun u => u.heap[g0]? = some (.cells (blk f) 79)) [0, 1, 2, 3, 5, 6, 7] 4 8 [(9, false), (10, true), (11, true), (12, false)] (by kernel_rfl) rfl (by kernel_rfl) (fun d _ _ _ _ h => by cases d <;> exact h) X10 ?_
    try simp only [Act.put]
    generalize Y9.drew = V10 at *
    refine wpFork_yield (v := .pointer (some ⟨g, 0, none⟩)) rfl rfl (fun u _ => by simp [execOp, Act.eval]) ?_
    simp only [Act.put, List.setIfInBounds_toArray, List.set_cons_succ, List.set_cons_zero]
    refine wpFork_yield (v := .pointer (some ⟨g, 0, none⟩)) rfl rfl (fun u _ => by simp [execOp, Act.eval]) ?_
    simp only [Act.put, List.setIfInBounds_toArray, List.set_cons_succ, List.set_cons_zero]
    refine wpFork_yield (v := .pointer (some ⟨g, 0, none⟩)) rfl rfl (fun u _ => by go_simp) ?_
    simp only [Act.put, List.setIfInBounds_toArray, List.set_cons_succ, List.set_cons_zero]
    refine wpFork_yield (v := .pointer (some ⟨g, 6, none⟩)) rfl rfl (fun u _ => by go_simp) ?_
    simp only [Act.put, List.setIfInBounds_toArray, List.set_cons_succ, List.set_cons_zero]
    refine wpFork_yield (v := .int .i64 k) rfl rfl (fun u _ => by simp [execOp, Act.eval]) ?_
    simp only [Act.put, List.setIfInBounds_toArray, List.set_cons_succ, List.set_cons_zero]
    refine wpFork_yield (v := .agg (blk f)) rfl rfl (fun u hu => by
      unfold execOp
      simp only [Act.eval]
      have e := loadM (BlkAt.of hu)
      change Sem.run Tryz.prog (Instr.loadAt 79 (.pointer (some ⟨g0, 0, none⟩)) >>= fun v => pure (Next.value v)) u = _
      simp only [Sem.run_bind, e, Result.andThen_ok, Sem.run_pure]) ?_
    simp only [Act.put, List.setIfInBounds_toArray, List.set_cons_succ, List.set_cons_zero]
    refine wpFork_yield (v := .agg (recCells ⟨1, k, f⟩).toArray) rfl rfl (fun u hu => by
      have e := build108 1 k f u
      simp [execOp, Act.eval, e]) ?_
    simp only [Act.put, List.setIfInBounds_toArray, List.set_cons_succ, List.set_cons_zero]
    obtain ⟨v10, W10, hr10, hw10, hb10, hf10, ho10, hE10⟩ := D10.pushO hl2 ⟨1, k, f⟩
    obtain ⟨aa10, am10, ac10, rfl⟩ : ∃ a m c, v10 = Value.slice a m c := by obtain ⟨p, c, e, _⟩ := own_slice hE10.ops; exact ⟨_, _, _, e⟩
    have E10 := Hid.mk' hE10
    have k10 : W10.cell? ⟨g, 6, none⟩ = some ov := Joins.cell_of_block hw10 6
    have z10 : W10.frozen? ⟨g, 6, none⟩ = false := Joins.unfrozen_of_block hw10 6
    have c10 : V10.cell? ⟨g, 6, none⟩ = some ov := Joins.cell_of_block D10.row 6
    have c10' : (V10.alloc (.cells (recCells ⟨1, k, f⟩).toArray 94)).cell? ⟨g, 6, none⟩ = some ov := by rw [World.cell?_alloc_past _ _ _ D10.lt]; exact c10
    have S1 := heap_kept X10 (below_new V10 (.cells (recCells ⟨1, k, f⟩).toArray 94))
    have S5 : W10.heap[g0]? = some (.cells (blk f) 79) := (hf10.block g0 (Array.getElem?_eq_some_iff.1 X10).1 (own_ne D10.ops X10 (by decide))).trans X10
    have S6 : (W10.setCell ⟨g, 6, none⟩ (.slice aa10 am10 ac10)).heap[g0]? = some (.cells (blk f) 79) := (Below.heap_setCell _ _ _ _ (by show g0 ≠ g; omega)).trans S5
    have B10' := Hid.mk' (B10.out.trans (RTo.stepO hf10 ho10))
    have hbs := build67 ⟨1, k, f⟩ V10
    obtain ⟨p10, q10, e10, -⟩ := own_slice D10.ops
    have hlen10 := hl2
    rw [e10] at hr10 k10 c10 c10'
    clear hE10 hw10 hb10 hf10 ho10 D10 B10
    generalize hrc10 : (recCells ⟨1, k, f⟩).toArray = RC10 at *
    generalize hlm10 : S.ops.length = m10 at *
    refine wpFork_nil rfl rfl ?_ ?_
    · simp only [inOrd, List.getElem?_cons_zero, List.getElem?_cons_succ]
      refine wpOrd_run (v := .slice p10 m10 q10) (w' := V10) rfl (by go_simp) X10 ?_
      simp only [Act.put, List.setIfInBounds_toArray, List.set_cons_succ, List.set_cons_zero]
      refine wpOrd_run (v := .slice (some ⟨V10.heap.size, 0, none⟩) 1 1) (w' := V10.alloc (.cells RC10 94)) rfl (by simp [execOp, Act.eval, hbs]) S1 ?_
      simp only [Act.put, List.setIfInBounds_toArray, List.set_cons_succ, List.set_cons_zero]
      refine wpOrd_run (v := .slice aa10 am10 ac10) (w' := W10) rfl (by simp [execOp, Act.eval, resolve, invoke, builtin, hr10, Result.andThen]) S5 ?_
      simp only [Act.put, List.setIfInBounds_toArray, List.set_cons_succ, List.set_cons_zero]
      refine wpOrd_yield (v := .pointer (some ⟨g, 0, none⟩)) rfl (fun u _ => by go_simp) ?_
      simp only [Act.put, List.setIfInBounds_toArray, List.set_cons_succ, List.set_cons_zero]
      refine wpOrd_yield (v := .pointer (some ⟨g, 6, none⟩)) rfl (fun u _ => by go_simp) ?_
      simp only [Act.put, List.setIfInBounds_toArray, List.set_cons_succ, List.set_cons_zero]
      refine wpOrd_do (w' := W10.setCell ⟨g, 6, none⟩ (.slice aa10 am10 ac10)) rfl (by go_simp) S6 ?_
      refine wpOrd_nil ?_
      simp only [Act.put]
      clear hr10 S1 S5 k10 z10 c10 c10' hbs hrc10
      generalize W10.setCell ⟨g, 6, none⟩ (.slice aa10 am10 ac10) = Y10 at *
      have e := E10.out
      have e2 : RWrP B g hv wv ov (rWriteS s k f) w Y10 := ⟨_, _, by unfold rWriteS; rw [hS]; exact e, B10'.out⟩
      have HE := Hid.mk' e2
      clear e e2 E10 E9
      go_wp2
      go_ret
      exact ⟨rfl, HE.out⟩
    · simp only [inOrd, List.getElem?_cons_zero, List.getElem?_cons_succ]
      refine wpOrd_run (v := .slice (some ⟨V10.heap.size, 0, none⟩) 1 1) (w' := V10.alloc (.cells RC10 94)) rfl (by simp [execOp, Act.eval, hbs]) S1 ?_
      simp only [Act.put, List.setIfInBounds_toArray, List.set_cons_succ, List.set_cons_zero]
      refine wpOrd_run (v := .slice p10 m10 q10) (w' := V10.alloc (.cells RC10 94)) rfl (by go_simp) S1 ?_
      simp only [Act.put, List.setIfInBounds_toArray, List.set_cons_succ, List.set_cons_zero]
      refine wpOrd_run (v := .slice aa10 am10 ac10) (w' := W10) rfl (by simp [execOp, Act.eval, resolve, invoke, builtin, hr10, Result.andThen]) S5 ?_
      simp only [Act.put, List.setIfInBounds_toArray, List.set_cons_succ, List.set_cons_zero]
      refine wpOrd_yield (v := .pointer (some ⟨g, 0, none⟩)) rfl (fun u _ => by go_simp) ?_
      simp only [Act.put, List.setIfInBounds_toArray, List.set_cons_succ, List.set_cons_zero]
      refine wpOrd_yield (v := .pointer (some ⟨g, 6, none⟩)) rfl (fun u _ => by go_simp) ?_
      simp only [Act.put, List.setIfInBounds_toArray, List.set_cons_succ, List.set_cons_zero]
      refine wpOrd_do (w' := W10.setCell ⟨g, 6, none⟩ (.slice aa10 am10 ac10)) rfl (by go_simp) S6 ?_
      refine wpOrd_nil ?_
      simp only [Act.put]
      clear hr10 S1 S5 k10 z10 c10 c10' hbs hrc10
      generalize W10.setCell ⟨g, 6, none⟩ (.slice aa10 am10 ac10) = Y10 at *
      have e := E10.out
      have e2 : RWrP B g hv wv ov (rWriteS s k f) w Y10 := ⟨_, _, by unfold rWriteS; rw [hS]; exact e, B10'.out⟩
      have HE := Hid.mk' e2
      clear e e2 E10 E9
      go_wp2
      go_ret
      exact ⟨rfl, HE.out⟩
end Go.Proofs.YtlcdpmjdnihocaaGreatD
/- The document's disk: what is held is laid anew, what is pending and the history are made empty. -/
namespace Go.Proofs.YtlcdpmjdnihocaaGreatD
open Go.RowKit Go.Maps
section
variable {w W W2 : World} {B g : Nat} {hv wv ov v : Value} {s : RSt}
theorem own_base {e sz n B' : Nat} {xs : List Value} (h : w.ownsRow B' e sz v n xs) (hB : B ≤ B') : w.ownsRow B e sz v n xs := by
  refine ⟨h.1, ?_⟩
  rcases h.2 with q | ⟨g, cap, cur, e, hb, r⟩
  · exact .inl q
  · exact .inr ⟨g, cap, cur, e, Nat.le_trans hB hb, r⟩
/-- A list that is new is held. -/
theorem RDAt.setHeld (h : RDAt W B g hv wv ov s) (hb : Below W.heap.size W W2) {l : List Cel} (ho : W2.ownsRow W.heap.size 81 1025 v l.length (l.flatMap celRow)) : RDAt (W2.setCell ⟨g, 1, none⟩ v) B g v wv ov { s with held := l } := by
  have h2 := h.later hb
  have hBW : B ≤ W.heap.size := by have := h.base; have := h.lt; omega
  refine ⟨?_, ?_, ?_, ?_, ?_, h.base⟩
  · rw [heap_setCell_same W2 g 1 _ 75 v h2.row]; rfl
  · exact ownsRow_setCell_other (own_base ho hBW) (a := ⟨g, 1, none⟩) (own_ne ho h2.row (by decide)) v
  · exact ownsRow_setCell_other h2.wait (a := ⟨g, 1, none⟩) (own_ne h2.wait h2.row (by decide)) v
  · exact ownsRow_setCell_other h2.ops (a := ⟨g, 1, none⟩) (own_ne h2.ops h2.row (by decide)) v
  · intro b q1 q2
    have e1 := (ho.lt b q1).1
    have e2 := (h.wait.lt b q2).2
    omega
/-- Nothing is pending. -/
theorem RDAt.nilW (h : RDAt w B g hv wv ov s) : RDAt (w.setCell ⟨g, 2, none⟩ (.slice none 0 0)) B g hv (.slice none 0 0) ov { s with wait := [] } := by
  refine ⟨?_, ?_, ?_, ?_, ?_, h.base⟩
  · rw [heap_setCell_same w g 2 _ 75 (.slice none 0 0) h.row]; rfl
  · exact ownsRow_setCell_other h.held (a := ⟨g, 2, none⟩) (own_ne h.held h.row (by decide)) _
  · exact World.ownsRow_nil _ _ _ _
  · exact ownsRow_setCell_other h.ops (a := ⟨g, 2, none⟩) (own_ne h.ops h.row (by decide)) _
  · intro b _ q2
    cases q2
/-- The history is empty. -/
theorem RDAt.nilO (h : RDAt w B g hv wv ov s) : RDAt (w.setCell ⟨g, 6, none⟩ (.slice none 0 0)) B g hv wv (.slice none 0 0) { s with ops := [] } := by
  refine ⟨?_, ?_, ?_, ?_, h.two, h.base⟩
  · rw [heap_setCell_same w g 6 _ 75 (.slice none 0 0) h.row]; rfl
  · exact ownsRow_setCell_other h.held (a := ⟨g, 6, none⟩) (own_ne h.held h.row (by decide)) _
  · exact ownsRow_setCell_other h.wait (a := ⟨g, 6, none⟩) (own_ne h.wait h.row (by decide)) _
  · exact World.ownsRow_nil _ _ _ _
end
theorem laidGo_len (k : Int) (b : Nat → Int) : ∀ (d : Bool) (l : List Cel), (laidGo k b d l).length ≤ l.length + (if d then 0 else 1)
  | true, [] => by simp [laidGo]
  | false, [] => by simp [laidGo]
  | d, (y, f) :: t => by
    have ih := laidGo_len k b (d || decide (k ≤ y)) t
    rw [laidGo_at, List.length_append, List.length_append, List.length_cons]
    have h2 : (if y = k then ([] : List Cel) else [(y, f)]).length ≤ 1 := by split <;> simp
    cases d <;> by_cases hk : k ≤ y <;> simp [hk] at ih ⊢ <;> omega
theorem laidL_len (l : List Cel) (k : Int) (b : Nat → Int) : (laidL l k b).length ≤ l.length + 1 := by
  have h := laidGo_len k b (blankB b) l
  unfold laidL
  split at h <;> omega
/-- Many laid, one after another. -/
def rLay (h : List Cel) (ws : List Cel) : List Cel := ws.foldl (fun h c => laidL h c.1 c.2) h
theorem rLay_snoc (h ws : List Cel) (c : Cel) : rLay h (ws ++ [c]) = laidL (rLay h ws) c.1 c.2 := by unfold rLay; rw [List.foldl_append]; rfl
theorem rLay_len (h : List Cel) : ∀ (ws : List Cel), (rLay h ws).length ≤ h.length + ws.length := fun ws => by
  induction ws generalizing h with
  | nil => simp [rLay]
  | cons c t ih =>
    have h1 := ih (laidL h c.1 c.2)
    have h2 := laidL_len h c.1 c.2
    show (rLay (laidL h c.1 c.2) t).length ≤ _
    rw [List.length_cons]
    omega
end Go.Proofs.YtlcdpmjdnihocaaGreatD
