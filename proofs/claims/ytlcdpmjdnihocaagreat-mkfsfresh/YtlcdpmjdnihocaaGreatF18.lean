/- Several texts joined, each with its own remark; no condition. -/
import Derived.Test.YtlcdpmjdnihocaaGreatF17
import Derived.Test.YtlcdpmjdnihocaaGreatF10
import Derived.Test.YtlcdpmjdnihocaaGreatF16
/- Sound block numbers: pointers finds nothing; what stands in the lists of files. -/
namespace Go.Proofs.YtlcdpmjdnihocaaGreat
open Go.RowKit Go.Maps
/-- The list of files at v can be read: element by element, and each one's list of block numbers. -/
structure FlsAt (w : World) (p : Option Addr) (L : List Fl) : Prop where
  lie : LieG flCells 18 w p L
  sp : ∀ x ∈ L, LieG pc2 2 w x.p x.sp
  len : L.length ≤ 1000000
  len2 : ∀ x ∈ L, x.sp.length ≤ 1000000
theorem FlsAt.later {w W : World} {p : Option Addr} {L : List Fl} (h : FlsAt w p L) (hb : Below w.heap.size w W) : FlsAt W p L := ⟨h.lie.later hb, fun x hx => (h.sp x hx).later hb, h.len, h.len2⟩
theorem FilesAt.fls {w : World} {B : Nat} {v : Value} {L : List Fl} (h : FilesAt w B v L) (h1 : L.length ≤ 1000000) (h2 : ∀ x ∈ L, x.sp.length ≤ 1000000) : ∃ p c, v = .slice p L.length c ∧ FlsAt w p L := by
  obtain ⟨p, c, hv, hl⟩ := OwnG.lie flCells_len h.own
  refine ⟨p, c, hv, hl, fun x hx => ?_, h1, h2⟩
  obtain ⟨B', hs⟩ := h.sp x hx
  obtain ⟨q, c', he, hq⟩ := OwnG.lie pc2_len hs
  injection he with e1
  rw [e1]
  exact hq
/-- The element i: where the list lies, and its cells. -/
theorem FlsAt.at {w : World} {p : Option Addr} {L : List Fl} (h : FlsAt w p L) {i : Nat} (hi : i < L.length) : ∃ g x, p = some ⟨g, 0, none⟩ ∧ L[i]? = some x ∧ x ∈ L ∧ ∀ j u, (flCells x)[j]? = some u → w.cell? ⟨g, i * 18 + j, none⟩ = some u := by
  obtain ⟨g, h1, _, h3⟩ := h.lie (by omega)
  exact ⟨g, L[i], h1, List.getElem?_eq_getElem hi, List.getElem_mem hi, fun j u hu => h3 i L[i] (List.getElem?_eq_getElem hi) j u hu⟩
theorem FlsAt.spot {w : World} {p : Option Addr} {L : List Fl} (h : FlsAt w p L) {x : Fl} (hx : x ∈ L) {k : Nat} (hk : k < x.sp.length) : ∃ g s, x.p = some ⟨g, 0, none⟩ ∧ x.sp[k]? = some s ∧ s ∈ x.sp ∧ w.cell? ⟨g, k * 2, none⟩ = some (.int .i64 s.1) ∧ w.cell? ⟨g, k * 2 + 1, none⟩ = some (.int .i64 s.2) := by
  obtain ⟨g, h1, _, h3⟩ := h.sp x hx (by omega)
  exact ⟨g, x.sp[k], h1, List.getElem?_eq_getElem hk, List.getElem_mem hk, h3 k _ (List.getElem?_eq_getElem hk) 0 _ rfl, h3 k _ (List.getElem?_eq_getElem hk) 1 _ rfl⟩
set_option maxRecDepth 20000 in
set_option maxHeartbeats 4000000 in
theorem pointers29_ok {w : World} {g : Nat} {n : Int} {l : List Cel} {y : Lay} (h : Aud w g n l y) {p : Option Addr} {L : List Fl} (c : Nat) (hL : FlsAt w p L) (hok : ∀ x ∈ L, ∀ s ∈ x.sp, dataB y s.2 = true) :
    Calls Tryz.prog 79 #[.pointer (some ⟨g, 0, none⟩), .slice p L.length c] w fun e w' => e = .returned (.slice none 0 0) ∧ Below w.heap.size w w' := by
  have z := zero230
  have HA : Hid (Aud (w.alloc (.cells #[.int .u8 5, .slice none 0 0] 181)) g n l y) := h.later (below_new _ _)
  have HL : Hid (FlsAt (w.alloc (.cells #[.int .u8 5, .slice none 0 0] 181)) p L) := hL.later (below_new _ _)
  have hx := heap_alloc_new w (.cells #[.int .u8 5, .slice none 0 0] 181)
  have c1 := Joins.cell_of_block hx 1
  have HB : Hid (Below w.heap.size w (w.alloc (.cells #[.int .u8 5, .slice none 0 0] 181))) := below_new _ _
  have HO : Hid _ := hok
  have hlen := hL.len
  have HL2 : Hid _ := hL.len2
  clear h hL hok hx
  have HN : Hid (∃ N, N = L.length) := ⟨_, rfl⟩
  go_enter Tryz.func79, Tryz.ntmps79
  go_wp2
  generalize w.alloc (.cells #[.int .u8 5, .slice none 0 0] 181) = V at *
  go_loopw [6, 7, 8] (fun s6 _ _ wx => wx = V ∧ ∃ i : Nat, i ≤ L.length ∧ s6 = .int .i64 i) (fun s6 _ _ _ => L.length - (intOf s6).toNat)
  case atStart => exact ⟨rfl, 0, by omega, rfl⟩
  case round =>
    obtain ⟨rfl, i, hi, rfl⟩ := hrel
    by_cases hi2 : (i : Int) < (L.length : Int)
    · obtain ⟨gf, x, rfl, _, hxL, hcx⟩ := HL.out.at (i := i) (by omega)
      have c17 := hcx 17 _ rfl
      have hlx := HL2.out x hxL
      have HS : Hid (∀ k, k < x.sp.length → ∃ gs s, x.p = some ⟨gs, 0, none⟩ ∧ x.sp[k]? = some s ∧ s ∈ x.sp ∧ wr.cell? ⟨gs, k * 2, none⟩ = some (.int .i64 s.1) ∧ wr.cell? ⟨gs, k * 2 + 1, none⟩ = some (.int .i64 s.2)) := fun k hk => HL.out.spot hxL hk
      have HOx : Hid _ := HO.out x hxL
      clear hcx hxL
      generalize hN : L.length = N at *
      have hNi : i < N := by omega
      have hlt' : decide (i < N) = true := decide_eq_true hNi
      go_wp2
      go_loopw [7, 8] (fun s7 _ wx => wx = wr ∧ ∃ k : Nat, k ≤ x.sp.length ∧ s7 = .int .i64 k) (fun s7 _ _ => x.sp.length - (intOf s7).toNat)
      case atStart => exact ⟨rfl, 0, by omega, rfl⟩
      case round =>
        obtain ⟨rfl, k, hk, rfl⟩ := hrel
        by_cases hk2 : (k : Int) < (x.sp.length : Int)
        · obtain ⟨gs, s, hp, _, hs, cs0, cs1⟩ := HS.out k (by omega)
          have hdt := data29_any HA.out s.2
          rw [HOx.out s hs] at hdt
          rw [hp] at c17
          have hM : k < x.sp.length := by omega
          generalize x.sp.length = M at *
          go_wp2_with (first | (go_at_call 124; fail))
          refine hdt.mono ?_
          rintro e W1 ⟨rfl, rfl⟩
          clear hdt
          go_wp2
          exact ⟨⟨trivial, k + 1, by omega, by go_num⟩, by simp [intOf]; omega⟩
        · obtain rfl : k = x.sp.length := by omega
          clear HS HOx
          generalize x.sp.length = M at *
          go_wp2
          exact ⟨⟨trivial, i + 1, by omega, by go_num⟩, by simp [intOf]; omega⟩
    · go_wp2
      go_ret
      exact ⟨rfl, HB.out⟩
end Go.Proofs.YtlcdpmjdnihocaaGreat
/- How often each block stands in the files' lists; none twice. -/
namespace Go.Proofs.YtlcdpmjdnihocaaGreat
open Go.RowKit Go.Maps
theorem info3 : (Tryz.prog.info? 3).map (fun i => (i.zero, i.size, i.bytes)) = some (some (.int .i64 0), 1, 8) := by kernel_rfl
theorem made_ints (n : Nat) : madeCells #[Value.int .i64 0] n = rowN .i64 nought n :=
  rowN_ext (by simp [madeCells]) fun j hj => by simp [madeCells, hj, Nat.mod_one, nought]
theorem run_make45 (u : World) (n : Nat) (hn : n * 8 ≤ 281474976710656) :
    (Instr.makeSlice 70 (.int .i64 (n : Int)) (.int .i64 (n : Int))).run Tryz.prog u = .ok (.slice (some ⟨u.heap.size, 0, none⟩) n n) (u.alloc (.cells (rowN .i64 nought n) 3)) := by
  obtain ⟨i0, hi0, hz0, hz1, hz2⟩ := info_parts info3
  have h := run_make (P := Tryz.prog) u 70 3 i0 (.int .i64 0) Tryz.underlying70 hi0 hz0 .i64 .i64 n n (by omega) (Int.le_refl _) (by rw [hz2]; omega) (by omega)
  rw [Int.toNat_natCast, hz1] at h
  rw [h]
  simp [Value.cells, made_ints]
def cntS (l : List (Int × Int)) (b : Nat) : Int := ((l.filter fun s => s.2 == (b : Int)).length : Nat)
theorem cntS_snoc (l : List (Int × Int)) (s : Int × Int) (b : Nat) : cntS (l ++ [s]) b = cntS l b + if s.2 = (b : Int) then 1 else 0 := by
  unfold cntS
  rw [List.filter_append, List.length_append]
  by_cases h : s.2 = (b : Int)
  · simp [h]
  · simp [h]
theorem cntS_le (l : List (Int × Int)) (b : Nat) : 0 ≤ cntS l b ∧ cntS l b ≤ l.length := by
  unfold cntS
  have := List.length_filter_le (fun s : Int × Int => s.2 == (b : Int)) l
  omega
def allS (L : List Fl) : List (Int × Int) := L.flatMap Fl.sp
/-- The numbers counted so far. -/
structure CnSt (w W : World) (gr nB : Nat) (l : List (Int × Int)) : Prop where
  row : ∃ f, W.heap[gr]? = some (.cells (rowN .i64 f nB) 3) ∧ ∀ b, b < nB → f b = cntS l b
  far : w.heap.size ≤ gr
  bel : Below w.heap.size w W
theorem CnSt.step {w W : World} {gr nB : Nat} {l : List (Int × Int)} (h : CnSt w W gr nB l) (s : Int × Int) (b : Nat) (hs : s.2 = (b : Int)) (hb : b < nB) :
    W.cell? ⟨gr, b, none⟩ = some (.int .i64 (cntS l b)) ∧ W.frozen? ⟨gr, b, none⟩ = false ∧ CnSt w (W.setCell ⟨gr, b, none⟩ (.int .i64 (cntS l b + 1))) gr nB (l ++ [s]) := by
  obtain ⟨⟨f, h1, h2⟩, h3, h4⟩ := h
  have c := cell_rowN (i := b) h1 hb
  rw [h2 b hb] at c
  refine ⟨c, frozen_row h1 b, ⟨_, setCell_rowN h1 b _, fun b' hb' => ?_⟩, h3, h4.trans ((Fr.setCell W gr b _).below (fun j q => by omega) h4.size)⟩
  rw [cntS_snoc]
  unfold updN
  by_cases e : b' = b
  · subst e; rw [if_pos rfl, if_pos hs]
  · rw [if_neg e, if_neg (by omega), h2 b' hb']; omega
theorem take_snoc {α : Type} {l : List α} {k : Nat} {s : α} (h : l[k]? = some s) : l.take (k + 1) = l.take k ++ [s] := by
  rw [List.take_add_one, h]; rfl
theorem allS_snoc {L : List Fl} {i : Nat} {x : Fl} (h : L[i]? = some x) : allS (L.take (i + 1)) = allS (L.take i) ++ x.sp := by
  unfold allS
  rw [take_snoc h, List.flatMap_append]
  simp
theorem allS_le (L : List Fl) (i : Nat) : (allS (L.take i)).length ≤ (allS L).length := by
  have : allS L = allS (L.take i) ++ allS (L.drop i) := by unfold allS; rw [← List.flatMap_append, List.take_append_drop]
  rw [this, List.length_append]; omega
set_option maxRecDepth 20000 in
set_option maxHeartbeats 4000000 in
theorem owned29_any {w : World} {g : Nat} {n : Int} {l : List Cel} {y : Lay} (h : Aud w g n l y) {p : Option Addr} {L : List Fl} (c : Nat) (hL : FlsAt w p L) {nB : Nat} (hb : y.b = nB) (hb1 : nB ≤ 100000000) (hok : ∀ x ∈ L, ∀ s ∈ x.sp, 0 ≤ s.2 ∧ s.2 < nB) (htot : (allS L).length ≤ 100000000) :
    Calls Tryz.prog 125 #[.pointer (some ⟨g, 0, none⟩), .slice p L.length c] w fun e w' => ∃ gr, e = .returned (.slice (some ⟨gr, 0, none⟩) nB nB) ∧ CnSt w w' gr nB (allS L) := by
  have c2 : w.cell? ⟨g, 2, none⟩ = some (.int .i64 nB) := by
    obtain ⟨⟨p, cap, q, c, hr, _⟩, _, _⟩ := h
    have c2 := Joins.cell_of_block hr 2
    unfold dkRow at c2
    rwa [show y.b = nB from hb] at c2
  have hm := run_make45 w nB (by omega)
  have HL : Hid (FlsAt w p L) := hL
  have HO : Hid _ := hok
  have HT : Hid _ := htot
  have hlen := hL.len
  have HL2 : Hid _ := hL.len2
  have HC0 : Hid (CnSt w (w.alloc (.cells (rowN .i64 nought nB) 3)) w.heap.size nB []) := ⟨⟨nought, heap_alloc_new _ _, fun _ _ => rfl⟩, Nat.le_refl _, below_new _ _⟩
  clear h hL hok hb htot
  go_enter Tryz.func125, Tryz.ntmps125
  go_wp2
  clear hm c2
  generalize w.alloc (.cells (rowN .i64 nought nB) 3) = V at *
  generalize hgr : w.heap.size = gr at *
  clear hgr
  go_loopw [6, 7] (fun s6 _ wx => ∃ i : Nat, i ≤ L.length ∧ s6 = .int .i64 i ∧ Hid (CnSt w wx gr nB (allS (L.take i)))) (fun s6 _ _ => L.length - (intOf s6).toNat)
  case atStart => exact ⟨0, by omega, rfl, HC0.out⟩
  case round =>
    obtain ⟨i, hi, rfl, HC⟩ := hrel
    by_cases hi2 : (i : Int) < (L.length : Int)
    · obtain ⟨gf, x, rfl, hLi, hxL, _⟩ := (HL.out.later HC.out.bel).at (i := i) (by omega)
      have HS : Hid (∀ W, Below w.heap.size w W → W.cell? ⟨gf, i * 18 + 17, none⟩ = some (.slice x.p x.sp.length x.c) ∧ ∀ k, k < x.sp.length → ∃ gs s, x.p = some ⟨gs, 0, none⟩ ∧ x.sp[k]? = some s ∧ s ∈ x.sp ∧ W.cell? ⟨gs, k * 2, none⟩ = some (.int .i64 s.1) ∧ W.cell? ⟨gs, k * 2 + 1, none⟩ = some (.int .i64 s.2)) := fun W hW => by
        have hLW := HL.out.later hW
        obtain ⟨g', x', hp, hx', _, hcx⟩ := hLW.at (i := i) (by omega)
        injection hp with hp
        injection hp with hp
        subst hp
        rw [hLi] at hx'
        injection hx' with hx'
        subst hx'
        exact ⟨hcx 17 _ rfl, fun k hk => hLW.spot hxL hk⟩
      have hlx := HL2.out x hxL
      have HOx : Hid _ := HO.out x hxL
      have HAl : Hid (allS (L.take (i + 1)) = allS (L.take i) ++ x.sp) := allS_snoc hLi
      have hal : (allS (L.take i) ++ x.sp).length ≤ 100000000 := by
        rw [← HAl.out]
        exact Nat.le_trans (allS_le L (i + 1)) HT.out
      clear hxL hLi
      have c17 := (HS.out wr HC.out.bel).1
      generalize hA : allS (L.take i) = acc at *
      generalize hN : L.length = N at *
      have hNi : i < N := by omega
      go_wp2
      go_loopw [7] (fun s7 wx => ∃ k : Nat, k ≤ x.sp.length ∧ s7 = .int .i64 k ∧ Hid (CnSt w wx gr nB (acc ++ x.sp.take k))) (fun s7 _ => x.sp.length - (intOf s7).toNat)
      case atStart => exact ⟨0, by omega, rfl, by rw [List.take_zero, List.append_nil]; exact HC.out⟩
      case round =>
        obtain ⟨k, hk, rfl, HK⟩ := hrel
        obtain ⟨c17, hsp⟩ := HS.out wr HK.out.bel
        by_cases hk2 : (k : Int) < (x.sp.length : Int)
        · obtain ⟨gs, s, hp, hsk, hs, cs0, cs1⟩ := hsp k (by omega)
          have hbs := HOx.out s hs
          obtain ⟨b, hb⟩ : ∃ b : Nat, s.2 = (b : Int) := ⟨s.2.toNat, by omega⟩
          obtain ⟨cb, fb, hst⟩ := HK.out.step s b hb (by omega)
          have HK2 : Hid (CnSt w (wr.setCell ⟨gr, b, none⟩ (.int .i64 (cntS (acc ++ x.sp.take k) b + 1))) gr nB (acc ++ x.sp.take (k + 1))) := by
            show CnSt _ _ _ _ _
            rw [take_snoc hsk, ← List.append_assoc]
            exact hst
          have hcb := cntS_le (acc ++ x.sp.take k) b
          have hlc : (acc ++ x.sp.take k).length ≤ 100000000 := by rw [List.length_append, List.length_take]; rw [List.length_append] at hal; omega
          have hbN : b < nB := by omega
          rw [hb] at cs1
          rw [hp] at c17
          have ec : IntKind.i64.wrap (cntS (acc ++ x.sp.take k) b + 1) = cntS (acc ++ x.sp.take k) b + 1 := by rw [IntKind.wrap_i64]; omega
          have hM : k < x.sp.length := by omega
          clear hst hbs hs hsk HK hb hsp hal hlc
          generalize cntS (acc ++ x.sp.take k) b = q at *
          generalize x.sp.length = M at *
          go_wp2
          exact ⟨⟨k + 1, by omega, by go_num, HK2.out⟩, by simp [intOf]; omega⟩
        · obtain rfl : k = x.sp.length := by omega
          have HK2 : Hid (CnSt w wr gr nB (allS (L.take (i + 1)))) := by
            show CnSt _ _ _ _ _
            rw [HAl.out]
            have := HK.out
            rwa [List.take_length] at this
          clear HK hsp hal HS HOx
          generalize x.sp.length = M at *
          go_wp2
          exact ⟨⟨i + 1, by omega, by go_num, HK2.out⟩, by simp [intOf]; omega⟩
    · obtain rfl : i = L.length := by omega
      have HK2 : Hid (CnSt w wr gr nB (allS L)) := by
        have := HC.out
        rwa [List.take_length] at this
      clear HC
      go_wp2
      go_ret
      exact ⟨gr, rfl, HK2.out⟩
set_option maxRecDepth 20000 in
set_option maxHeartbeats 4000000 in
theorem twice29_ok {w : World} {g : Nat} {n : Int} {l : List Cel} {y : Lay} (h : Aud w g n l y) {p : Option Addr} {L : List Fl} (c : Nat) (hL : FlsAt w p L) {nB : Nat} (hb : y.b = nB) (hb1 : nB ≤ 100000000) (hok : ∀ x ∈ L, ∀ s ∈ x.sp, 0 ≤ s.2 ∧ s.2 < nB) (htot : (allS L).length ≤ 100000000) (hone : ∀ b, b < nB → cntS (allS L) b ≤ 1) :
    Calls Tryz.prog 80 #[.pointer (some ⟨g, 0, none⟩), .slice p L.length c] w fun e w' => e = .returned (.slice none 0 0) ∧ Below w.heap.size w w' := by
  have z := zero230
  have hbn := below_new w (.cells #[.int .u8 6, .slice none 0 0] 181)
  have hown := owned29_any (h.later hbn) c (hL.later hbn) hb hb1 hok htot
  have HX : Hid _ := heap_alloc_new w (.cells #[.int .u8 6, .slice none 0 0] 181)
  have HB : Hid _ := hbn
  have HO : Hid _ := hone
  clear h hL hok hb htot hone hbn
  generalize allS L = S at *
  go_enter Tryz.func80, Tryz.ntmps80
  go_wp2_with (first | (go_at_call 125; fail))
  generalize w.alloc (.cells #[.int .u8 6, .slice none 0 0] 181) = V at *
  refine hown.mono ?_
  rintro e W1 ⟨gr, rfl, hc⟩
  obtain ⟨⟨f, hr, hf⟩, _, hbel⟩ := hc
  have HR : Hid _ := hr
  have HF : Hid _ := hf
  have hx := heap_kept HX.out hbel
  have c1 := Joins.cell_of_block hx 1
  have HB2 : Hid (Below w.heap.size w W1) := below_next HB.out hbel
  clear hown hr hf hx hbel
  go_wp2
  go_loopw [7] (fun s7 wx => wx = W1 ∧ ∃ b : Nat, b ≤ nB ∧ s7 = .int .i64 b) (fun s7 _ => nB - (intOf s7).toNat)
  case atStart => exact ⟨rfl, 0, by omega, rfl⟩
  case round =>
    obtain ⟨rfl, b, hb, rfl⟩ := hrel
    by_cases hb2 : (b : Int) < (nB : Int)
    · have cb := cell_rowN (i := b) HR.out (by omega)
      rw [HF.out b (by omega)] at cb
      have h1 := HO.out b (by omega)
      have g1 : decide (1 < cntS S b) = false := decide_eq_false (by omega)
      have hbn : b < nB := by omega
      generalize cntS S b = q at *
      go_wp2
      exact ⟨⟨trivial, b + 1, by omega, by go_num⟩, by simp [intOf]; omega⟩
    · go_wp2
      go_ret
      exact ⟨rfl, HB2.out⟩
end Go.Proofs.YtlcdpmjdnihocaaGreat
/- What an index is mapped to, blank index blocks, and files in which nothing is wrong. -/
namespace Go.Proofs.YtlcdpmjdnihocaaGreat
open Go.RowKit Go.Maps
/-- The block of an index; 0: a hole. -/
def mapP : List (Int × Int) → Int → Int
  | [], _ => 0
  | s :: t, i => if s.1 = i then s.2 else mapP t i
theorem mapP_skip {l : List (Int × Int)} {i : Int} : ∀ {k : Nat}, (∀ j s, j < k → l[j]? = some s → ¬ s.1 = i) → mapP l i = mapP (l.drop k) i := by
  induction l with
  | nil => intro k _; simp
  | cons a t ih =>
    intro k h
    cases k with
    | zero => rfl
    | succ k =>
      have h0 := h 0 a (by omega) rfl
      rw [mapP, if_neg h0, List.drop_succ_cons]
      exact ih fun j s hj hs => h (j + 1) s (by omega) (by simpa using hs)
theorem mapP_hit {l : List (Int × Int)} {i : Int} {k : Nat} {s : Int × Int} (h : ∀ j s, j < k → l[j]? = some s → ¬ s.1 = i) (hk : l[k]? = some s) (hs : s.1 = i) : mapP l i = s.2 := by
  rw [mapP_skip h]
  have : l.drop k = s :: l.drop (k + 1) := by
    obtain ⟨hlt, he⟩ := List.getElem?_eq_some_iff.1 hk
    rw [← he]; exact List.drop_eq_getElem_cons hlt
  rw [this, mapP, if_pos hs]
set_option maxRecDepth 20000 in
set_option maxHeartbeats 1000000 in
theorem mapped29_any {w : World} {p : Option Addr} {sp : List (Int × Int)} (c : Nat) (h : LieG pc2 2 w p sp) (hl : sp.length ≤ 1000000) (i : Int) :
    Calls Tryz.prog 134 #[.slice p sp.length c, .int .i64 i] w fun e w' => e = .returned (.int .i64 (mapP sp i)) ∧ w' = w := by
  have HL : Hid _ := h
  clear h
  go_enter Tryz.func134, Tryz.ntmps134
  go_wp2
  go_loopw [5] (fun s5 wx => wx = w ∧ ∃ k : Nat, k ≤ sp.length ∧ s5 = .int .i64 k ∧ Hid (∀ j s, j < k → sp[j]? = some s → ¬ s.1 = i)) (fun s5 _ => sp.length - (intOf s5).toNat)
  case atStart => exact ⟨rfl, 0, by omega, rfl, fun j s hj => absurd hj (by omega)⟩
  case round =>
    obtain ⟨rfl, k, hk, rfl, HN⟩ := hrel
    by_cases hk2 : (k : Int) < (sp.length : Int)
    · obtain ⟨g, rfl, _, hc⟩ := HL.out (by omega)
      have hsk : sp[k]? = some sp[k] := List.getElem?_eq_getElem (by omega)
      have c0 : wr.cell? ⟨g, k * 2, none⟩ = some (.int .i64 (sp[k]).1) := hc k _ hsk 0 _ rfl
      have c1 : wr.cell? ⟨g, k * 2 + 1, none⟩ = some (.int .i64 (sp[k]).2) := hc k _ hsk 1 _ rfl
      have HM : Hid ((sp[k]).1 = i → mapP sp i = (sp[k]).2) := fun q => mapP_hit HN.out hsk q
      have HN2 : Hid (¬ (sp[k]).1 = i → ∀ j s, j < k + 1 → sp[j]? = some s → ¬ s.1 = i) := fun q j s hj hs => by
        by_cases e : j = k
        · subst e; rw [hsk] at hs; injection hs with hs; rw [← hs]; exact q
        · exact HN.out j s (by omega) hs
      have hkl : k < sp.length := by omega
      generalize sp[k] = s at *
      clear hc HN hsk
      generalize hN : sp.length = N at *
      by_cases e : s.1 = i
      · have HM2 : Hid _ := HM.out e
        have g1 : (s.1 == i) = true := by simp [e]
        clear HM HN2 HL
        go_wp2
        go_ret
        exact ⟨by rw [HM2.out]; rfl, rfl⟩
      · have HM2 : Hid _ := HN2.out e
        have g1 : (s.1 == i) = false := by simp [e]
        clear HM HN2 HL
        go_wp2
        exact ⟨⟨trivial, k + 1, by omega, by go_num, HM2.out⟩, by simp [intOf]; omega⟩
    · obtain rfl : k = sp.length := by omega
      have HM : Hid (mapP sp i = 0) := by
        show _ = _
        rw [mapP_skip HN.out, List.drop_length]
        rfl
      clear HN HL
      generalize sp.length = N at *
      go_wp2
      go_ret
      exact ⟨by rw [HM.out]; rfl, rfl⟩
set_option maxRecDepth 20000 in
theorem eg77 : Tryz.prog.eqGuardType Tryz.prog.depth 79 = false := by kernel_rfl
set_option maxRecDepth 20000 in
set_option maxHeartbeats 1000000 in
theorem blank29_any {w : World} {g : Nat} {n : Int} {l : List Cel} {y : Lay} (h : Aud w g n l y) (b : Int) :
    Calls Tryz.prog 152 #[.pointer (some ⟨g, 0, none⟩), .int .i64 b] w fun e w' => e = .returned (.bool (sameN 1024 (atL l b) nought)) ∧ Below w.heap.size w w' := by
  have hc := at29_any h b
  clear h
  obtain ⟨r, hr⟩ : ∃ r, sameN 1024 (atL l b) nought = r := ⟨_, rfl⟩
  rw [hr]
  generalize atL l b = f at *
  go_enter Tryz.func152, Tryz.ntmps152
  go_wp2_with (first | (go_at_call 90; fail))
  refine hc.mono ?_
  rintro e W ⟨rfl, hb⟩
  go_wp2_with (first | (with_reducible refine isBuildR 79 ?_; refine wpList_buildB rfl rfl ?_) | (with_reducible refine isEqR 79 79 ?_; refine wpList_eqN (m := 1024) Tryz.underlying79 eg77 rfl _ _ rfl f nought r rfl rfl hr ?_))
  go_ret
  exact ⟨rfl, hb⟩
/-- A file's row in memory. -/
theorem fl_cell {w : World} {g : Nat} {x : Fl} {t : TypeId} (h : w.heap[g]? = some (.cells (flCells x).toArray t)) : w.cell? ⟨g, 1, none⟩ = some (.int .u16 x.k) ∧ w.cell? ⟨g, 3, none⟩ = some (.int .u32 x.s) ∧ w.cell? ⟨g, 4, none⟩ = some (.int .u32 x.b) ∧ w.cell? ⟨g, 17, none⟩ = some (.slice x.p x.sp.length x.c) := by
  refine ⟨?_, ?_, ?_, ?_⟩ <;> (rw [cell_of_row w g _ _ t _ h]; rfl)
def manyP (x : Fl) : Int := (x.s + 1023) / 1024
structure FlOk (w : World) (x : Fl) : Prop where
  lie : LieG pc2 2 w x.p x.sp
  len : x.sp.length ≤ 1000000
  s : 0 ≤ x.s ∧ x.s ≤ 4294967295
  b : 0 ≤ x.b ∧ x.b ≤ 4294967295
/-- Nothing of the kind is wrong with it. -/
def FineP (l : List Cel) (x : Fl) (kind : Int) : Prop :=
  (kind = 10 ∧ x.b = x.sp.length) ∨ (kind = 12 ∧ (x.k = 2 → ∀ i : Nat, (i : Int) < manyP x → ¬ mapP x.sp i = 0)) ∨
  (kind = 9 ∧ (mapP x.sp (x.s / 1024) = 0 ∨ x.s % 1024 = 0 ∨ ∀ j : Nat, x.s % 1024 ≤ j → j < 1024 → atL l (mapP x.sp (x.s / 1024)) j = 0)) ∨
  (kind = 8 ∧ ∀ s ∈ x.sp, s.1 < manyP x) ∨ (kind = 7 ∧ ∀ s ∈ x.sp, s.1 < 0 → sameN 1024 (atL l s.2) nought = false)
set_option maxRecDepth 20000 in
set_option maxHeartbeats 4000000 in
theorem wrong29_blocks {w : World} {g : Nat} (x : Fl) (h : FlOk w x) (hb : x.b = x.sp.length) :
    Calls Tryz.prog 126 #[.pointer (some ⟨g, 0, none⟩), .agg (flCells x).toArray, .int .u8 10] w fun e w' => e = .returned (.bool false) ∧ Below w.heap.size w w' := by
  have hx := heap_alloc_new w (.cells (flCells x).toArray 114)
  have HB : Hid _ := below_new w (.cells (flCells x).toArray 114)
  obtain ⟨c1, c3, c4, c17⟩ := fl_cell hx
  have hup := up29_any x.s (w.alloc (.cells (flCells x).toArray 114)) (by have := h.s; omega)
  obtain ⟨_, hl, hs, hbb⟩ := h
  have e1 : IntKind.i64.wrap x.s = x.s := by rw [IntKind.wrap_i64]; omega
  have e2 : IntKind.i64.wrap x.b = x.b := by rw [IntKind.wrap_i64]; omega
  rw [hb] at c4 e2
  clear hx hbb hb
  generalize (flCells x).toArray = F at *
  generalize x.sp.length = M at *
  go_enter Tryz.func126, Tryz.ntmps126
  go_wp2_with (first | (go_at_call 151; fail))
  refine hup.mono ?_
  rintro e W ⟨rfl, rfl⟩
  clear hup
  go_wp2
  go_ret
  exact ⟨by simp, HB.out⟩
end Go.Proofs.YtlcdpmjdnihocaaGreat
/- Files in which nothing is wrong: holes, tails, numbers beyond the end, blank index blocks. -/
namespace Go.Proofs.YtlcdpmjdnihocaaGreat
open Go.RowKit Go.Maps
theorem LieG.keep {α : Type} {en : α → List Value} {sz : Nat} {w : World} {p : Option Addr} {l : List α} (h : LieG en sz w p l) (o : Obj) : LieG en sz (w.alloc o) p l := h.later (below_new w o)
set_option maxRecDepth 20000 in
set_option maxHeartbeats 4000000 in
theorem wrong29_hole {w : World} {g : Nat} (x : Fl) (h : FlOk w x) (hh : x.k = 2 → ∀ i : Nat, (i : Int) < manyP x → ¬ mapP x.sp i = 0) :
    Calls Tryz.prog 126 #[.pointer (some ⟨g, 0, none⟩), .agg (flCells x).toArray, .int .u8 12] w fun e w' => e = .returned (.bool false) ∧ Below w.heap.size w w' := by
  have hx := heap_alloc_new w (.cells (flCells x).toArray 114)
  have HB : Hid _ := below_new w (.cells (flCells x).toArray 114)
  obtain ⟨c1, c3, c4, c17⟩ := fl_cell hx
  have hup := up29_any x.s (w.alloc (.cells (flCells x).toArray 114)) (by have := h.s; omega)
  have HM : Hid (∀ i : Int, Calls Tryz.prog 134 #[.slice x.p x.sp.length x.c, .int .i64 i] (w.alloc (.cells (flCells x).toArray 114)) fun e w' => e = .returned (.int .i64 (mapP x.sp i)) ∧ w' = (w.alloc (.cells (flCells x).toArray 114))) := fun i => mapped29_any x.c (h.lie.keep _) h.len i
  obtain ⟨_, hl, hs, _⟩ := h
  have e1 : IntKind.i64.wrap x.s = x.s := by rw [IntKind.wrap_i64]; omega
  have HH : Hid (x.k = 2 → ∀ i : Nat, (i : Int) < (x.s + 1023) / 1024 → ¬ mapP x.sp i = 0) := hh
  obtain ⟨M, hM⟩ : ∃ M : Nat, (x.s + 1023) / 1024 = (M : Int) := ⟨((x.s + 1023) / 1024).toNat, by omega⟩
  have hM2 : M ≤ 4194305 := by omega
  rw [hM] at hup HH
  clear hx hh hM
  generalize (flCells x).toArray = F at *
  go_enter Tryz.func126, Tryz.ntmps126
  go_wp2_with (first | (go_at_call 151; fail))
  refine hup.mono ?_
  rintro e W ⟨rfl, rfl⟩
  clear hup
  go_wp2
  generalize w.alloc (.cells F 114) = V at *
  go_loopw [8] (fun s8 wx => wx = V ∧ ∃ i : Nat, i ≤ M ∧ s8 = .int .i64 i) (fun s8 _ => M - (intOf s8).toNat)
  case atStart => exact ⟨rfl, 0, by omega, rfl⟩
  case round =>
    obtain ⟨rfl, i, hi, rfl⟩ := hrel
    by_cases hi2 : (i : Int) < (M : Int)
    · by_cases hk : x.k = 2
      · have hne := HH.out hk i hi2
        have hc := HM.out i
        have g1 : (mapP x.sp i == 0) = false := by simp [hne]
        have g2 : (x.k == 2) = true := by simp [hk]
        rw [hk] at c1
        clear HH HM hne hk
        generalize x.sp.length = N at *
        go_wp2_with (first | (go_at_call 134; fail))
        refine hc.mono ?_
        rintro e W ⟨rfl, rfl⟩
        clear hc
        generalize mapP x.sp i = q at *
        go_wp2
        exact ⟨⟨trivial, i + 1, by omega, by go_num⟩, by simp [intOf]; omega⟩
      · have g2 : (x.k == 2) = false := by simp [hk]
        clear HH HM
        generalize x.sp.length = N at *
        generalize x.k = kk at *
        go_wp2
        go_ret
        exact ⟨rfl, HB.out⟩
    · clear HH HM
      generalize x.sp.length = N at *
      go_wp2
      go_ret
      exact ⟨rfl, HB.out⟩
set_option maxRecDepth 20000 in
set_option maxHeartbeats 4000000 in
theorem wrong29_tail {w : World} {g : Nat} {n : Int} {l : List Cel} {y : Lay} (ha : Aud w g n l y) (x : Fl) (h : FlOk w x) (hh : mapP x.sp (x.s / 1024) = 0 ∨ x.s % 1024 = 0 ∨ ∀ j : Nat, x.s % 1024 ≤ j → j < 1024 → atL l (mapP x.sp (x.s / 1024)) j = 0) :
    Calls Tryz.prog 126 #[.pointer (some ⟨g, 0, none⟩), .agg (flCells x).toArray, .int .u8 9] w fun e w' => e = .returned (.bool false) ∧ Below w.heap.size w w' := by
  have z := zero77
  have hx := heap_alloc_new w (.cells (flCells x).toArray 114)
  have HB : Hid _ := below_new w (.cells (flCells x).toArray 114)
  have HX : Hid _ := hx
  obtain ⟨c1, c3, c4, c17⟩ := fl_cell hx
  have hup := up29_any x.s (w.alloc (.cells (flCells x).toArray 114)) (by have := h.s; omega)
  have hm := mapped29_any x.c (h.lie.keep (.cells (flCells x).toArray 114)) h.len (x.s / 1024)
  have hat := at29_any (ha.later (below_new w (.cells (flCells x).toArray 114))) (mapP x.sp (x.s / 1024))
  obtain ⟨_, hl, hs, _⟩ := h
  have e1 : IntKind.i64.wrap x.s = x.s := by rw [IntKind.wrap_i64]; omega
  have e2 : x.s.tdiv 1024 = x.s / 1024 := Int.tdiv_eq_ediv_of_nonneg (by omega)
  have e3 : IntKind.i64.wrap (x.s / 1024) = x.s / 1024 := by rw [IntKind.wrap_i64]; omega
  have e4 : x.s.tmod 1024 = x.s % 1024 := Int.tmod_eq_emod_of_nonneg (by omega)
  obtain ⟨r, hr⟩ : ∃ r : Nat, x.s % 1024 = (r : Int) := ⟨(x.s % 1024).toNat, by omega⟩
  have hr2 : r < 1024 := by omega
  rw [hr] at hh e4
  have HH : Hid _ := hh
  clear hh
  generalize hF : (flCells x).toArray = F at *
  generalize mapP x.sp (x.s / 1024) = q at *
  generalize x.s / 1024 = sd at *
  generalize x.sp.length = N at *
  go_enter Tryz.func126, Tryz.ntmps126
  go_wp2_with (first | (go_at_call 151; fail))
  refine hup.mono ?_
  rintro e W ⟨rfl, rfl⟩
  clear hup
  go_wp2_with (first | (go_at_call 134; fail))
  refine hm.mono ?_
  rintro e W ⟨rfl, rfl⟩
  clear hm
  by_cases hq : q = 0
  · subst hq
    go_wp2
    go_ret
    exact ⟨rfl, HB.out⟩
  · have g1 : (q == 0) = false := by simp [hq]
    have w1 : IntKind.u32.wrap (r : Int) = (r : Int) := by rw [IntKind.wrap_u32]; omega
    have w2 : IntKind.i64.wrap (r : Int) = (r : Int) := by rw [IntKind.wrap_i64]; omega
    by_cases hr0 : (r : Int) = 0
    · have g2 : ((r : Int) == 0) = true := by simp [hr0]
      rw [hr0] at e4
      go_wp2
      go_ret
      exact ⟨rfl, HB.out⟩
    · have g2 : ((r : Int) == 0) = false := beq_eq_false_iff_ne.2 hr0
      have HZ : Hid (∀ j : Nat, (r : Int) ≤ j → j < 1024 → atL l q j = 0) := by
        rcases HH.out with e | e | e
        · exact absurd e hq
        · exact absurd e hr0
        · exact e
      clear HH
      go_wp2_with (first | (go_at_call 90; fail))
      refine hat.mono ?_
      rintro e W ⟨rfl, hb⟩
      generalize atL l q = f at *
      have hx2 := heap_kept HX.out hb
      have hx3 := heap_kept hx2 (below_new W (.cells (blk f) 79))
      rw [← hF] at hx3
      obtain ⟨_, d3, _, _⟩ := fl_cell hx3
      rw [hF] at hx3
      have HBk : Hid ((W.alloc (.cells (blk f) 79)).heap[W.heap.size]? = some (.cells (blk f) 79)) := heap_alloc_new _ _
      have HB2 : Hid (Below w.heap.size w (W.alloc (.cells (blk f) 79))) := below_next (below_next HB.out hb) (below_new _ _)
      clear hat hb hx2 hx3 c1 c3 c4 c17 hx
      go_wp2_with (first | (with_reducible refine isStoreR 79 ?_; refine wpList_stBn rfl (.tmp 10) (.tmp 104) rfl W.heap.size f nought 79 rfl rfl rfl ?_))
      generalize W.alloc (.cells (blk f) 79) = V at *
      go_loopw [11] (fun s11 wx => wx = V ∧ ∃ j : Nat, r ≤ j ∧ j ≤ 1024 ∧ s11 = .int .i64 j) (fun s11 _ => 1024 - (intOf s11).toNat)
      case atStart => exact ⟨rfl, r, by omega, by omega, rfl⟩
      case round =>
        obtain ⟨rfl, j, hj1, hj2, rfl⟩ := hrel
        by_cases hj : (j : Int) < 1024
        · have cb := cell_rowN (i := j) (m := 1024) HBk.out (by omega)
          rw [HZ.out j (by omega) (by omega)] at cb
          go_wp2
          exact ⟨⟨trivial, j + 1, by omega, by omega, by go_num⟩, by simp [intOf]; omega⟩
        · obtain rfl : j = 1024 := by omega
          go_wp2
          go_ret
          exact ⟨rfl, HB2.out⟩
set_option maxRecDepth 20000 in
set_option maxHeartbeats 4000000 in
theorem wrong29_beyond {w : World} {g : Nat} (x : Fl) (h : FlOk w x) (hh : ∀ s ∈ x.sp, s.1 < manyP x) :
    Calls Tryz.prog 126 #[.pointer (some ⟨g, 0, none⟩), .agg (flCells x).toArray, .int .u8 8] w fun e w' => e = .returned (.bool false) ∧ Below w.heap.size w w' := by
  have hx := heap_alloc_new w (.cells (flCells x).toArray 114)
  have HB : Hid _ := below_new w (.cells (flCells x).toArray 114)
  have HX : Hid _ := hx
  have hup := up29_any x.s (w.alloc (.cells (flCells x).toArray 114)) (by have := h.s; omega)
  have HL : Hid (LieG pc2 2 w x.p x.sp) := h.lie
  obtain ⟨c1, c3, c4, c17⟩ := fl_cell hx
  obtain ⟨_, hl, hs, _⟩ := h
  have e1 : IntKind.i64.wrap x.s = x.s := by rw [IntKind.wrap_i64]; omega
  have HH : Hid (∀ s ∈ x.sp, s.1 < (x.s + 1023) / 1024) := hh
  clear hx hh
  generalize hF : (flCells x).toArray = F at *
  go_enter Tryz.func126, Tryz.ntmps126
  go_wp2_with (first | (go_at_call 151; fail))
  refine hup.mono ?_
  rintro e W ⟨rfl, rfl⟩
  clear hup
  generalize (x.s + 1023) / 1024 = m at *
  go_wp2
  clear c1 c3 c4 c17
  generalize w.alloc (.cells F 114) = V at *
  go_loopw [12, 13] (fun s12 _ wx => ∃ i : Nat, i ≤ x.sp.length ∧ s12 = .int .i64 i ∧ Hid (Below V.heap.size V wx)) (fun s12 _ _ => x.sp.length - (intOf s12).toNat)
  case atStart => exact ⟨0, by omega, rfl, Below.refl _ _⟩
  case round =>
    obtain ⟨i, hi, rfl, HW⟩ := hrel
    have hx2 := heap_kept HX.out HW.out
    rw [← hF] at hx2
    obtain ⟨_, _, _, c17⟩ := fl_cell hx2
    rw [hF] at hx2
    by_cases hi2 : (i : Int) < (x.sp.length : Int)
    · have hlw := HL.out.later (below_next HB.out HW.out)
      obtain ⟨gs, hp, _, hc⟩ := hlw (by omega)
      have hsk : x.sp[i]? = some x.sp[i] := List.getElem?_eq_getElem (by omega)
      have c0 : wr.cell? ⟨gs, i * 2, none⟩ = some (.int .i64 (x.sp[i]).1) := hc i _ hsk 0 _ rfl
      have c1 : wr.cell? ⟨gs, i * 2 + 1, none⟩ = some (.int .i64 (x.sp[i]).2) := hc i _ hsk 1 _ rfl
      have hlt := HH.out x.sp[i] (List.getElem_mem (by omega))
      have hil : i < x.sp.length := by omega
      rw [hp] at c17
      generalize x.sp[i] = s at *
      clear hc hlw hsk hp
      have HW2 : Hid (Below V.heap.size V (wr.alloc (.cells #[.int .i64 s.1, .int .i64 s.2] 146))) := below_next HW.out (below_new _ _)
      have g1 : decide (m ≤ s.1) = false := decide_eq_false (by omega)
      clear hx2 HW
      generalize x.sp.length = N at *
      go_wp2
      exact ⟨⟨i + 1, by omega, by go_num, HW2.out⟩, by simp [intOf]; omega⟩
    · have HR : Hid (Below w.heap.size w wr) := below_next HB.out HW.out
      clear HW hx2 HL HH
      generalize x.sp.length = N at *
      go_wp2
      go_ret
      exact ⟨rfl, HR.out⟩
set_option maxRecDepth 20000 in
set_option maxHeartbeats 4000000 in
theorem wrong29_index {w : World} {g : Nat} {n : Int} {l : List Cel} {y : Lay} (ha : Aud w g n l y) (x : Fl) (h : FlOk w x) (hh : ∀ s ∈ x.sp, s.1 < 0 → sameN 1024 (atL l s.2) nought = false) :
    Calls Tryz.prog 126 #[.pointer (some ⟨g, 0, none⟩), .agg (flCells x).toArray, .int .u8 7] w fun e w' => e = .returned (.bool false) ∧ Below w.heap.size w w' := by
  have hx := heap_alloc_new w (.cells (flCells x).toArray 114)
  have HB : Hid _ := below_new w (.cells (flCells x).toArray 114)
  have HX : Hid _ := hx
  have HA : Hid _ := ha
  have hup := up29_any x.s (w.alloc (.cells (flCells x).toArray 114)) (by have := h.s; omega)
  have HL : Hid (LieG pc2 2 w x.p x.sp) := h.lie
  obtain ⟨c1, c3, c4, c17⟩ := fl_cell hx
  obtain ⟨_, hl, hs, _⟩ := h
  have e1 : IntKind.i64.wrap x.s = x.s := by rw [IntKind.wrap_i64]; omega
  have HH : Hid _ := hh
  clear hx hh ha
  generalize hF : (flCells x).toArray = F at *
  go_enter Tryz.func126, Tryz.ntmps126
  go_wp2_with (first | (go_at_call 151; fail))
  refine hup.mono ?_
  rintro e W ⟨rfl, rfl⟩
  clear hup
  generalize (x.s + 1023) / 1024 = m at *
  go_wp2
  clear c1 c3 c4 c17
  generalize w.alloc (.cells F 114) = V at *
  go_loopw [12, 13] (fun s12 _ wx => ∃ i : Nat, i ≤ x.sp.length ∧ s12 = .int .i64 i ∧ Hid (Below V.heap.size V wx)) (fun s12 _ _ => x.sp.length - (intOf s12).toNat)
  case atStart => exact ⟨0, by omega, rfl, Below.refl _ _⟩
  case round =>
    obtain ⟨i, hi, rfl, HW⟩ := hrel
    have hx2 := heap_kept HX.out HW.out
    rw [← hF] at hx2
    obtain ⟨_, _, _, c17⟩ := fl_cell hx2
    rw [hF] at hx2
    by_cases hi2 : (i : Int) < (x.sp.length : Int)
    · have hlw := HL.out.later (below_next HB.out HW.out)
      obtain ⟨gs, hp, _, hc⟩ := hlw (by omega)
      have hsk : x.sp[i]? = some x.sp[i] := List.getElem?_eq_getElem (by omega)
      have c0 : wr.cell? ⟨gs, i * 2, none⟩ = some (.int .i64 (x.sp[i]).1) := hc i _ hsk 0 _ rfl
      have c1 : wr.cell? ⟨gs, i * 2 + 1, none⟩ = some (.int .i64 (x.sp[i]).2) := hc i _ hsk 1 _ rfl
      have hlt := HH.out x.sp[i] (List.getElem_mem (by omega))
      have hil : i < x.sp.length := by omega
      rw [hp] at c17
      generalize x.sp[i] = s at *
      have HW2 : Hid (Below V.heap.size V (wr.alloc (.cells #[.int .i64 s.1, .int .i64 s.2] 146))) := below_next HW.out (below_new _ _)
      have hbl := blank29_any (HA.out.later (below_next HB.out HW2.out)) s.2
      clear hc hlw hsk hp hx2 HW
      by_cases hs0 : s.1 < 0
      · have g1 : decide (s.1 < 0) = true := decide_eq_true hs0
        rw [hlt hs0] at hbl
        clear hlt
        generalize x.sp.length = N at *
        go_wp2_with (first | (go_at_call 152; fail))
        refine hbl.mono ?_
        rintro e W ⟨rfl, hb⟩
        have HW3 : Hid (Below V.heap.size V W) := below_next HW2.out hb
        clear hbl hb HW2
        go_wp2
        exact ⟨⟨i + 1, by omega, by go_num, HW3.out⟩, by simp [intOf]; omega⟩
      · have g1 : decide (s.1 < 0) = false := decide_eq_false hs0
        clear hbl hlt
        generalize x.sp.length = N at *
        go_wp2
        exact ⟨⟨i + 1, by omega, by go_num, HW2.out⟩, by simp [intOf]; omega⟩
    · have HR : Hid (Below w.heap.size w wr) := below_next HB.out HW.out
      clear HW hx2 HL HH
      generalize x.sp.length = N at *
      go_wp2
      go_ret
      exact ⟨rfl, HR.out⟩
theorem wrong29_ok {w : World} {g : Nat} {n : Int} {l : List Cel} {y : Lay} (ha : Aud w g n l y) (x : Fl) (h : FlOk w x) (kind : Int) (hk : FineP l x kind) :
    Calls Tryz.prog 126 #[.pointer (some ⟨g, 0, none⟩), .agg (flCells x).toArray, .int .u8 kind] w fun e w' => e = .returned (.bool false) ∧ Below w.heap.size w w' := by
  rcases hk with ⟨rfl, hk⟩ | ⟨rfl, hk⟩ | ⟨rfl, hk⟩ | ⟨rfl, hk⟩ | ⟨rfl, hk⟩
  · exact wrong29_blocks x h hk
  · exact wrong29_hole x h hk
  · exact wrong29_tail ha x h hk
  · exact wrong29_beyond x h hk
  · exact wrong29_index ha x h hk
end Go.Proofs.YtlcdpmjdnihocaaGreat
/- Files: each by itself; the marks. -/
namespace Go.Proofs.YtlcdpmjdnihocaaGreat
open Go.RowKit Go.Maps
theorem size155 : (Tryz.prog.info? 114).map (·.size) = some 18 := by kernel_rfl
theorem loadF {w : World} {b off : Nat} {x : Fl} (h : ∀ j u, (flCells x)[j]? = some u → w.cell? ⟨b, off + j, none⟩ = some u) : (Instr.loadAt 114 (.pointer (some ⟨b, off, none⟩))).run Tryz.prog w = .ok (.agg (flCells x).toArray) w :=
  run_loadAt_mid (P := Tryz.prog) w b off 114 (flCells x) _ (fun j v hv => h j v hv) Tryz.underlying114 rfl (by rw [flCells_len]; exact size155)
theorem wpList_ldF {ops : Array Oper} {rest : List Oper} {o : Oper} {a : Act} {w : World} {Q : Exit → Act → World → Prop} (hw : Region.wanted o (yielded ops a.tmps) = true) (x : Operand) (ho : o.op = .load 114 x) (b off : Nat) (f : Fl) (hx : a.eval x = .pointer (some ⟨b, off, none⟩)) (hg : ∀ j u, (flCells f)[j]? = some u → w.cell? ⟨b, off + j, none⟩ = some u)
    (h : wpList Tryz.prog ops Q rest (a.put o.dst (.agg (flCells f).toArray)) w) : wpList Tryz.prog ops Q (o :: rest) a w := by
  unfold wpList
  rw [if_pos hw]
  refine .inl ?_
  unfold Oper.wp execOp
  simp only [ho, hx, loadF hg, Sem.run_bind, Result.andThen_ok, Sem.run_pure]
  exact h
theorem FlsAt.get {w : World} {p : Option Addr} {L : List Fl} (h : FlsAt w p L) {x : Fl} (hx : x ∈ L) (hs : 0 ≤ x.s ∧ x.s ≤ 4294967295) (hb : 0 ≤ x.b ∧ x.b ≤ 4294967295) : FlOk w x := ⟨h.sp x hx, h.len2 x hx, hs, hb⟩
set_option maxRecDepth 20000 in
set_option maxHeartbeats 4000000 in
theorem filesF29_ok {w : World} {g : Nat} {n : Int} {l : List Cel} {y : Lay} (h : Aud w g n l y) {p : Option Addr} {L : List Fl} (c : Nat) (hL : FlsAt w p L) (kind : Int) (hsb : ∀ x ∈ L, (0 ≤ x.s ∧ x.s ≤ 4294967295) ∧ (0 ≤ x.b ∧ x.b ≤ 4294967295)) (hok : ∀ x ∈ L, FineP l x kind) :
    Calls Tryz.prog 81 #[.pointer (some ⟨g, 0, none⟩), .slice p L.length c, .int .u8 kind] w fun e w' => e = .returned (.slice none 0 0) ∧ Below w.heap.size w w' := by
  have z := zero230
  have HX : Hid _ := heap_alloc_new w (.cells #[.int .u8 kind, .slice none 0 0] 181)
  have HB : Hid _ := below_new w (.cells #[.int .u8 kind, .slice none 0 0] 181)
  have HA : Hid _ := h
  have HL : Hid _ := hL
  have HO : Hid _ := hok
  have HS : Hid _ := hsb
  have hlen := hL.len
  clear h hL hok hsb
  go_enter Tryz.func81, Tryz.ntmps81
  go_wp2
  generalize w.alloc (.cells #[.int .u8 kind, .slice none 0 0] 181) = V at *
  go_loopw [8, 9] (fun s8 _ wx => ∃ i : Nat, i ≤ L.length ∧ s8 = .int .i64 i ∧ Hid (Below V.heap.size V wx)) (fun s8 _ _ => L.length - (intOf s8).toNat)
  case atStart => exact ⟨0, by omega, rfl, Below.refl _ _⟩
  case round =>
    obtain ⟨i, hi, rfl, HW⟩ := hrel
    have hbw := below_next HB.out HW.out
    by_cases hi2 : (i : Int) < (L.length : Int)
    · have hLw := HL.out.later hbw
      obtain ⟨gf, x, rfl, _, hxL, hcx⟩ := hLw.at (i := i) (by omega)
      have hs := HS.out x hxL
      have hcall := wrong29_ok (HA.out.later hbw) x (hLw.get hxL hs.1 hs.2) kind (HO.out x hxL)
      have hil : i < L.length := by omega
      generalize L.length = N at *
      clear hs hLw hxL
      go_wp2_with (first | (with_reducible refine isLoadR 114 ?_; refine wpList_ldF rfl (.tmp 22) rfl gf (i * 18) x rfl hcx ?_) | (go_at_call 126; fail))
      refine hcall.mono ?_
      rintro e W ⟨rfl, hb⟩
      have HW2 : Hid (Below V.heap.size V W) := below_next HW.out hb
      clear hb hcall hcx HW hbw
      go_wp2
      exact ⟨⟨i + 1, by omega, by go_num, HW2.out⟩, by simp [intOf]; omega⟩
    · have hx := heap_kept HX.out HW.out
      have c1 := Joins.cell_of_block hx 1
      have HR : Hid _ := hbw
      clear hx hbw HW HX HA HL HO HS
      go_wp2
      go_ret
      exact ⟨rfl, HR.out⟩
end Go.Proofs.YtlcdpmjdnihocaaGreat
/- A mark of a block; the marks of all blocks are right. -/
namespace Go.Proofs.YtlcdpmjdnihocaaGreat
open Go.RowKit Go.Maps
/-- The bit i of a block. -/
def hasP (f : Nat → Int) (i : Nat) : Bool := f (i / 8) / 2 ^ (i % 8) % 2 == 1
theorem half (a : Int) (k : Nat) : a / 2 ^ k / 2 = a / 2 ^ (k + 1) := by
  have h : (0 : Int) < 2 ^ k := Int.pow_pos (by decide)
  rw [Int.pow_succ, Int.ediv_ediv, if_neg (by omega), Int.sub_zero]
set_option maxRecDepth 20000 in
set_option maxHeartbeats 1000000 in
theorem has02_any (f : Nat → Int) (i : Nat) (w : World) (hf : Byt f) (hi : i < 8192) :
    Calls Tryz.prog 106 #[.agg (blk f), .int .i64 (i : Int)] w fun e w' => e = .returned (.bool (hasP f i)) ∧ Below w.heap.size w w' := by
  have hx := heap_alloc_new w (.cells (blk f) 79)
  have cb := cell_rowN (i := i / 8) (m := 1024) hx (by omega)
  have HB : Hid _ := below_new w (.cells (blk f) 79)
  have hb := hf (i / 8)
  unfold hasP
  generalize f (i / 8) = v at *
  have e1 : (i : Int).tdiv 8 = ((i / 8 : Nat) : Int) := by rw [Int.tdiv_eq_ediv_of_nonneg (by omega)]; omega
  have e2 : (i : Int).tmod 8 = ((i % 8 : Nat) : Int) := by rw [Int.tmod_eq_emod_of_nonneg (by omega)]; omega
  have e3 : IntKind.i64.wrap ((i / 8 : Nat) : Int) = ((i / 8 : Nat) : Int) := by rw [IntKind.wrap_i64]; omega
  have e4 : IntKind.i64.wrap ((i % 8 : Nat) : Int) = ((i % 8 : Nat) : Int) := by rw [IntKind.wrap_i64]; omega
  have e5 : IntKind.i64.wrap v = v := by rw [IntKind.wrap_i64]; omega
  have h8 : i / 8 < 1024 := by omega
  have hm8 : i % 8 < 8 := by omega
  have g1 : decide ((i : Int) < 0) = false := decide_eq_false (by omega)
  have g2 : decide (8192 ≤ (i : Int)) = false := decide_eq_false (by omega)
  clear hx hf
  generalize blk f = F at *
  generalize i / 8 = q at *
  generalize i % 8 = r at *
  go_enter Tryz.func106, Tryz.ntmps106
  go_wp2
  generalize w.alloc (.cells F 79) = V at *
  go_loopw [5, 6] (fun s5 s6 wx => wx = V ∧ ∃ k : Nat, k ≤ r ∧ s6 = .int .i64 k ∧ s5 = .int .i64 (v / 2 ^ k)) (fun _ s6 _ => r - (intOf s6).toNat)
  case atStart => exact ⟨rfl, 0, by omega, rfl, by simp⟩
  case round =>
    obtain ⟨rfl, k, hk, rfl, rfl⟩ := hrel
    have h1 : 0 ≤ v / 2 ^ k := Int.ediv_nonneg hb.1 (Int.le_of_lt (Int.pow_pos (by decide)))
    have h2 : v / 2 ^ k ≤ v := Int.ediv_le_self _ hb.1
    have h3 := half v k
    by_cases hk2 : (k : Int) < (r : Int)
    · generalize v / 2 ^ k = u at *
      have t1 : u.tdiv 2 = u / 2 := Int.tdiv_eq_ediv_of_nonneg h1
      have t2 : IntKind.i64.wrap (u / 2) = u / 2 := by rw [IntKind.wrap_i64]; omega
      have H3 : Hid _ := h3
      clear h3
      go_wp2
      exact ⟨⟨trivial, k + 1, by omega, by go_num, by rw [H3.out]⟩, by simp [intOf]; omega⟩
    · obtain rfl : k = r := by omega
      clear h3
      obtain ⟨u, hu⟩ : ∃ u, v / 2 ^ k = u := ⟨_, rfl⟩
      rw [hu] at h1 h2 ⊢
      have HU : Hid _ := hu
      clear hu
      have t1 : u.tmod 2 = u % 2 := Int.tmod_eq_emod_of_nonneg h1
      have t2 : IntKind.i64.wrap (u % 2) = u % 2 := by rw [IntKind.wrap_i64]; omega
      go_wp2
      go_ret
      exact ⟨by rw [HU.out]; rfl, HB.out⟩
/-- Should the block be marked? -/
def wantB (y : Lay) (S : List (Int × Int)) (nB k : Nat) : Bool := decide ((k : Int) < y.dataAt) || (decide (k < nB) && decide (0 < cntS S k))
set_option maxRecDepth 20000 in
set_option maxHeartbeats 4000000 in
theorem bits29_ok {w : World} {g : Nat} {n : Int} {l : List Cel} {y : Lay} (h : Aud w g n l y) {p : Option Addr} {L : List Fl} (c : Nat) (hL : FlsAt w p L) {nB bB : Nat} (hb : y.b = nB) (hb1 : nB ≤ 100000000) (hok : ∀ x ∈ L, ∀ s ∈ x.sp, 0 ≤ s.2 ∧ s.2 < nB) (htot : (allS L).length ≤ 100000000)
    (hy : y.bitsBlocks = bB) (hy1 : bB ≤ 1000000) (hy2 : 0 ≤ y.bitsAt ∧ y.bitsAt ≤ 1000000000) (hm : ∀ k i, k < bB → i < 8192 → hasP (atL l (y.bitsAt + (k : Int))) i = wantB y (allS L) nB (8192 * k + i)) :
    Calls Tryz.prog 82 #[.pointer (some ⟨g, 0, none⟩), .slice p L.length c] w fun e w' => e = .returned (.slice none 0 0) ∧ Below w.heap.size w w' := by
  have z := zero77
  have hown := owned29_any h c hL hb hb1 hok htot
  have HA : Hid _ := h
  have HM : Hid _ := hm
  have HC : Hid (∀ W, Aud W g n l y → W.cell? ⟨g, 8, none⟩ = some (.int .i64 y.bitsAt) ∧ W.cell? ⟨g, 9, none⟩ = some (.int .i64 bB) ∧ W.cell? ⟨g, 10, none⟩ = some (.int .i64 y.dataAt)) := fun W hW => by
    obtain ⟨⟨p, cap, q, c, hr, _⟩, _, _⟩ := hW
    have c8 := Joins.cell_of_block hr 8
    have c9 := Joins.cell_of_block hr 9
    have c10 := Joins.cell_of_block hr 10
    unfold dkRow at c8 c9 c10
    rw [hy] at c9
    exact ⟨c8, c9, c10⟩
  clear h hL hok hb htot hm hy
  generalize allS L = S at *
  go_enter Tryz.func82, Tryz.ntmps82
  go_wp2_with (first | (go_at_call 125; fail))
  refine hown.mono ?_
  rintro e W1 ⟨gr, rfl, hc⟩
  obtain ⟨⟨f, hr, hf⟩, _, hbel⟩ := hc
  have HR : Hid _ := hr
  have HF : Hid _ := hf
  have HB : Hid (Below w.heap.size w W1) := hbel
  clear hown hr hf hbel
  go_wp2
  go_loopw [5, 7, 8, 9, 10, 11] (fun s5 s7 _ _ _ _ wx => ∃ k : Nat, k ≤ bB ∧ s5 = .slice none 0 0 ∧ s7 = .int .i64 k ∧ Hid (Below W1.heap.size W1 wx)) (fun _ s7 _ _ _ _ _ => bB - (intOf s7).toNat)
  case atStart => exact ⟨0, by omega, rfl, rfl, Below.refl _ _⟩
  case round =>
    obtain ⟨k, hk, rfl, rfl, HW⟩ := hrel
    have hA := HA.out.later (below_next HB.out HW.out)
    obtain ⟨c8, c9, c10⟩ := HC.out _ hA
    by_cases hk2 : (k : Int) < (bB : Int)
    · have hat := at29_any hA (y.bitsAt + (k : Int))
      have HBt : Hid _ := hA.blk (y.bitsAt + (k : Int))
      have HMk : Hid _ := fun i => HM.out k i (by omega)
      have e1 : IntKind.i64.wrap (y.bitsAt + (k : Int)) = y.bitsAt + (k : Int) := by rw [IntKind.wrap_i64]; omega
      generalize atL l (y.bitsAt + (k : Int)) = fb at *
      go_wp2_with (first | (go_at_call 90; fail))
      refine hat.mono ?_
      rintro e X1 ⟨rfl, hb2⟩
      have HX : Hid ((X1.alloc (.cells (blk fb) 79)).heap[X1.heap.size]? = some (.cells (blk fb) 79)) := heap_alloc_new _ _
      have HW2 : Hid (Below W1.heap.size W1 (X1.alloc (.cells (blk fb) 79))) := below_next (below_next HW.out hb2) (below_new _ _)
      clear hat hb2 HW c8 c9 c10 hA e1
      go_wp2_with (first | (with_reducible refine isStoreR 79 ?_; refine wpList_stBn rfl (.tmp 8) (.tmp 32) rfl X1.heap.size fb nought 79 rfl rfl rfl ?_))
      generalize X1.alloc (.cells (blk fb) 79) = V at *
      generalize X1.heap.size = gb at *
      go_loopw [5, 9, 10, 11] (fun s5 s9 _ _ wx => ∃ i : Nat, i ≤ 8192 ∧ s5 = .slice none 0 0 ∧ s9 = .int .i64 i ∧ Hid (Below V.heap.size V wx)) (fun _ s9 _ _ _ => 8192 - (intOf s9).toNat)
      case atStart => exact ⟨0, by omega, rfl, rfl, Below.refl _ _⟩
      case round =>
        obtain ⟨i, hi, rfl, rfl, HI⟩ := hrel
        by_cases hi2 : (i : Int) < 8192
        · have hbW := below_next HW2.out HI.out
          have hA2 := HA.out.later (below_next HB.out hbW)
          obtain ⟨c8, c9, c10⟩ := HC.out _ hA2
          have hx0 := blk_at (heap_kept HX.out HI.out)
          have hhas := has02_any fb i wr HBt.out (by omega)
          have hmk := HMk.out i (by omega)
          rw [hmk] at hhas
          have a1 : IntKind.i64.wrap (8192 * (k : Int)) = 8192 * (k : Int) := by rw [IntKind.wrap_i64]; omega
          have a2 : IntKind.i64.wrap (8192 * (k : Int) + (i : Int)) = ((8192 * k + i : Nat) : Int) := by rw [IntKind.wrap_i64]; omega
          have a3 : 8192 * (k : Int) + (i : Int) = ((8192 * k + i : Nat) : Int) := by omega
          have hrow := heap_kept HR.out hbW
          unfold wantB at hhas
          have HFa := HF.out (8192 * k + i)
          have HI2 : Hid _ := HI.out
          clear hA2 hmk c8 c9 HI
          generalize 8192 * k + i = K at *
          generalize y.dataAt = da at *
          by_cases hd : (K : Int) < da
          · have g1 : decide ((K : Int) < da) = true := decide_eq_true hd
            rw [g1, Bool.true_or] at hhas
            clear HFa hrow
            go_wp2_with (first | (with_reducible refine isLoadR 79 ?_; refine wpList_ldB rfl (.tmp 8) rfl gb 0 fb rfl hx0 ?_) | (go_at_call 106; fail))
            refine hhas.mono ?_
            rintro e X2 ⟨rfl, hb3⟩
            have HI3 : Hid (Below V.heap.size V X2) := below_next HI2.out hb3
            clear hhas hb3 HI2 hbW hx0 c10
            go_wp2
            exact ⟨⟨i + 1, by omega, rfl, by go_num, HI3.out⟩, by simp [intOf]; omega⟩
          · have g1 : decide ((K : Int) < da) = false := decide_eq_false hd
            rw [g1, Bool.false_or] at hhas
            by_cases hn : K < nB
            · have g2 : decide (K < nB) = true := decide_eq_true hn
              have g3 : decide ((K : Int) < (nB : Int)) = true := decide_eq_true (by omega)
              rw [g2, Bool.true_and] at hhas
              have cK := cell_rowN (i := K) hrow hn
              rw [HFa hn] at cK
              generalize cntS S K = q at *
              clear HFa hrow
              obtain ⟨r, hr⟩ : ∃ r, decide (0 < q) = r := ⟨_, rfl⟩
              rw [hr] at hhas
              go_wp2_with (first | (with_reducible refine isLoadR 79 ?_; refine wpList_ldB rfl (.tmp 8) rfl gb 0 fb rfl hx0 ?_) | (go_at_call 106; fail))
              refine hhas.mono ?_
              rintro e X2 ⟨rfl, hb3⟩
              have HI3 : Hid (Below V.heap.size V X2) := below_next HI2.out hb3
              clear hhas hb3 HI2 hbW hx0 c10 cK
              go_wp2
              exact ⟨⟨i + 1, by omega, rfl, by go_num, HI3.out⟩, by simp [intOf]; omega⟩
            · have g2 : decide (K < nB) = false := decide_eq_false hn
              have g3 : decide ((K : Int) < (nB : Int)) = false := decide_eq_false (by omega)
              rw [g2, Bool.false_and] at hhas
              clear HFa hrow
              go_wp2_with (first | (with_reducible refine isLoadR 79 ?_; refine wpList_ldB rfl (.tmp 8) rfl gb 0 fb rfl hx0 ?_) | (go_at_call 106; fail))
              refine hhas.mono ?_
              rintro e X2 ⟨rfl, hb3⟩
              have HI3 : Hid (Below V.heap.size V X2) := below_next HI2.out hb3
              clear hhas hb3 HI2 hbW hx0 c10
              go_wp2
              exact ⟨⟨i + 1, by omega, rfl, by go_num, HI3.out⟩, by simp [intOf]; omega⟩
        · obtain rfl : i = 8192 := by omega
          have HW3 : Hid (Below W1.heap.size W1 wr) := below_next HW2.out HI.out
          clear HI
          go_wp2
          exact ⟨⟨k + 1, by omega, rfl, by go_num, HW3.out⟩, by simp [intOf]; omega⟩
    · have HR2 : Hid (Below w.heap.size w wr) := below_next HB.out HW.out
      clear hA c8 c10 HW
      go_wp2
      go_ret
      exact ⟨rfl, HR2.out⟩
end Go.Proofs.YtlcdpmjdnihocaaGreat
/- MkfsFresh: what stands in the blocks that mkfs writes, byte by byte and bit by bit, as the document's audit reads them. -/
namespace Go.Proofs.YtlcdpmjdnihocaaGreat
open Go.RowKit Go.Maps
theorem putN_at : ∀ (m : Nat) (f : Nat → Int) (k : Nat) (v : Int) (j : Nat), YtlcdpmjdnihocaaGreatK.putN f k v m j = if k ≤ j ∧ j < k + m then v / 256 ^ (j - k) % 256 else f j
  | 0, f, k, v, j => by rw [if_neg (by omega)]; rfl
  | m + 1, f, k, v, j => by
    show YtlcdpmjdnihocaaGreatK.putN (YtlcdpmjdnihocaaGreatK.upd f k (v % 256)) (k + 1) (v / 256) m j = _
    rw [putN_at m]
    by_cases h0 : j = k
    · subst h0
      rw [if_neg (by omega), if_pos (by omega), show j - j = 0 by omega, Int.pow_zero, Int.ediv_one]
      unfold YtlcdpmjdnihocaaGreatK.upd
      rw [if_pos rfl]
    · by_cases h1 : k + 1 ≤ j ∧ j < k + 1 + m
      · have hp : (0 : Int) < 256 ^ (j - (k + 1)) := Int.pow_pos (by decide)
        rw [if_pos h1, if_pos (by omega), show j - k = (j - (k + 1)) + 1 by omega, Int.pow_succ, Int.mul_comm, Int.ediv_ediv, if_neg (by omega), Int.sub_zero]
      · rw [if_neg h1, if_neg (by omega)]
        unfold YtlcdpmjdnihocaaGreatK.upd
        rw [if_neg h0]
theorem encN_at (k l s b : Int) (d : Nat → Int) : ∀ (m j : Nat), YtlcdpmjdnihocaaGreatK.encN k l s b d m j = if 12 ≤ j ∧ j < 12 + 4 * m then d ((j - 12) / 4) / 256 ^ ((j - 12) % 4) % 256 else YtlcdpmjdnihocaaGreatK.encN k l s b d 0 j
  | 0, j => by rw [if_neg (by omega)]
  | m + 1, j => by
    show YtlcdpmjdnihocaaGreatK.putN (YtlcdpmjdnihocaaGreatK.encN k l s b d m) (12 + 4 * m) (d m) 4 j = _
    rw [putN_at, encN_at k l s b d m j]
    by_cases h : 12 + 4 * m ≤ j ∧ j < 12 + 4 * m + 4
    · rw [if_pos h, if_pos (by omega), show (j - 12) / 4 = m by omega, show (j - 12) % 4 = j - (12 + 4 * m) by omega]
    · rw [if_neg h]
      by_cases h2 : 12 ≤ j ∧ j < 12 + 4 * m
      · rw [if_pos h2, if_pos (by omega)]
      · rw [if_neg h2, if_neg (by omega)]
theorem enc0_far (j : Nat) (h : 12 ≤ j) (d : Nat → Int) : YtlcdpmjdnihocaaGreatK.encN 2 2 32 1 d 0 j = 0 := by
  show YtlcdpmjdnihocaaGreatK.putN (YtlcdpmjdnihocaaGreatK.putN (YtlcdpmjdnihocaaGreatK.putN (YtlcdpmjdnihocaaGreatK.putN nought 0 2 2) 2 2 2) 4 32 4) 8 1 4 j = 0
  rw [putN_at, putN_at, putN_at, putN_at, if_neg (by omega), if_neg (by omega), if_neg (by omega), if_neg (by omega)]
  rfl
theorem enc0_near : ∀ q : Fin 12, YtlcdpmjdnihocaaGreatK.putN (YtlcdpmjdnihocaaGreatK.putN (YtlcdpmjdnihocaaGreatK.putN (YtlcdpmjdnihocaaGreatK.putN nought 0 2 2) 2 2 2) 4 32 4) 8 1 4 q.val = if q.val = 0 then 2 else if q.val = 2 then 2 else if q.val = 4 then 32 else if q.val = 8 then 1 else 0 := by decide +kernel
/-- The root's inode's bytes. -/
theorem nd_at (g : Int) (j : Nat) : ndE g j = if j < 12 then (if j = 0 then 2 else if j = 2 then 2 else if j = 4 then 32 else if j = 8 then 1 else 0) else if j < 16 then g / 256 ^ (j - 12) % 256 else 0 := by
  unfold ndE
  rw [encN_at]
  by_cases h : j < 12
  · rw [if_neg (by omega), if_pos h]
    exact enc0_near ⟨j, h⟩
  · rw [if_neg h]
    by_cases h2 : j < 16
    · rw [if_pos (by omega), if_pos h2, show (j - 12) / 4 = 0 by omega, show (j - 12) % 4 = j - 12 by omega]
      rfl
    · rw [if_neg h2]
      by_cases h3 : j < 60
      · rw [if_pos (by omega)]
        unfold rtD updN
        rw [if_neg (by omega)]
        show (0 : Int) / _ % 256 = 0
        rw [Int.zero_ediv]
        rfl
      · rw [if_neg (by omega)]
        exact enc0_far j (by omega) _
theorem num_congrA {f g : Nat → Int} : ∀ (m k : Nat), (∀ j, k ≤ j → j < k + m → f j = g j) → numN f k m = numN g k m
  | 0, _, _ => rfl
  | m + 1, k, h => by rw [numN, numN, h k (by omega) (by omega), num_congrA m (k + 1) fun j h1 h2 => h j (by omega) (by omega)]
theorem nd_num (g : Int) : numN (ndE g) 0 2 = 2 ∧ numN (ndE g) 2 2 = 2 ∧ numN (ndE g) 4 4 = 32 ∧ numN (ndE g) 8 4 = 1 := by
  simp [numN, nd_at]
theorem nd_dir (g : Int) (hg : 0 ≤ g ∧ g < 4294967296) (i : Nat) (hi : i < 12) : decD (ndE g) i = if i = 0 then g else 0 := by
  unfold decD
  by_cases h : i = 0
  · subst h
    simp only [numN, nd_at]
    simp
    omega
  · rw [if_neg h]
    have e : ∀ j, 16 ≤ j → ndE g j = 0 := fun j hj => by rw [nd_at, if_neg (by omega), if_neg (by omega)]
    simp only [numN]
    rw [e _ (by omega), e _ (by omega), e _ (by omega), e _ (by omega)]
    rfl
theorem bt_bits : ∀ (t r : Fin 8), ((2 : Int) ^ t.val - 1) / 2 ^ r.val % 2 = if r.val < t.val then 1 else 0 := by decide +kernel
theorem bt_ones : ∀ (r : Fin 8), (255 : Int) / 2 ^ r.val % 2 = 1 := by decide +kernel
/-- The bits below n are set, no other. -/
theorem bt_has (n j : Nat) : hasP (btF n) j = decide (j < n) := by
  unfold hasP btF
  by_cases h1 : 8 * (j / 8) + 8 ≤ n
  · rw [if_pos h1, bt_ones ⟨j % 8, by omega⟩, decide_eq_true (show j < n by omega)]
    rfl
  · rw [if_neg h1]
    by_cases h2 : n ≤ 8 * (j / 8)
    · rw [if_pos h2, decide_eq_false (show ¬ j < n by omega), Int.zero_ediv]
      rfl
    · rw [if_neg h2, bt_bits ⟨n - 8 * (j / 8), by omega⟩ ⟨j % 8, by omega⟩]
      show ((if j % 8 < n - 8 * (j / 8) then (1 : Int) else 0) == 1) = _
      by_cases h3 : j < n
      · rw [if_pos (by omega), decide_eq_true h3]; rfl
      · rw [if_neg (by omega), decide_eq_false h3]; rfl
/-- The superblock. -/
theorem magic_same : ∀ j, j < 8 → YtlcdpmjdnihocaaGreatP.magicF j = magicB j := fun j h => by
  have : ∀ q : Fin 8, YtlcdpmjdnihocaaGreatP.magicF q.val = magicB q.val := by decide +kernel
  exact this ⟨j, h⟩
theorem lay_nums (b l i : Nat) : YtlcdpmjdnihocaaGreatP.nodeB (i : Int) = (((i + 16) / 16 : Nat) : Int) ∧ YtlcdpmjdnihocaaGreatP.bitsAt (l : Int) i = ((1 + l + (i + 16) / 16 : Nat) : Int) ∧ YtlcdpmjdnihocaaGreatP.bitsB (b : Int) = (((b + 8191) / 8192 : Nat) : Int) ∧ YtlcdpmjdnihocaaGreatP.dataAt (b : Int) l i = ((1 + l + (i + 16) / 16 + (b + 8191) / 8192 : Nat) : Int) := by
  unfold YtlcdpmjdnihocaaGreatP.dataAt YtlcdpmjdnihocaaGreatP.bitsAt YtlcdpmjdnihocaaGreatP.nodeB YtlcdpmjdnihocaaGreatP.bitsB
  omega
theorem nine_same (b l i : Nat) (m : Nat) (hm : m < 9) : YtlcdpmjdnihocaaGreatP.nineG (b : Int) l i m = numL (layOf b l i) m := by
  obtain ⟨e1, e2, e3, e4⟩ := lay_nums b l i
  unfold YtlcdpmjdnihocaaGreatP.nineG
  rw [e1, e2, e3, e4]
  match m, hm with
  | 0, _ | 1, _ | 2, _ | 3, _ | 5, _ | 6, _ | 7, _ | 8, _ => rfl
  | 4, _ => show 1 + (l : Int) = ((1 + l : Nat) : Int); omega
theorem super_same (b l i : Nat) : YtlcdpmjdnihocaaGreatP.superF (b : Int) l i = supP (layOf b l i) := by
  funext j
  unfold YtlcdpmjdnihocaaGreatP.superF YtlcdpmjdnihocaaGreatP.supF supP
  by_cases h : j < 8
  · rw [if_pos h, if_pos h, magic_same j h]
  · rw [if_neg h, if_neg h]
    by_cases h2 : j < 44
    · rw [if_pos h2, if_pos h2, nine_same b l i _ (by omega)]
    · rw [if_neg h2, if_neg h2]
end Go.Proofs.YtlcdpmjdnihocaaGreat
