/- Several texts joined, each with its own remark; no condition. -/
import Derived.Test.YtkcgbhagjkhcmaaGreatK19
/- The directories' entries, where all are as they must be; which inodes are come to from the root. -/
namespace Go.Proofs.YtkcgbhagjkhcmaaGreat
open Go.RowKit Go.Maps
structure DirAll (l : List Cel) (L : List Fl) (ent : Fl → List (Int × ByteArray)) (x : Fl) : Prop where
  inum : x.inum ≤ 65535
  ok : DirOk l ent x
  slo : ¬ x.lk = 0 → SlotsOk L x (ent x)
set_option maxRecDepth 20000 in
set_option maxHeartbeats 4000000 in
theorem slotsF29_ok {w : World} {g : Nat} {n : Int} {l : List Cel} {y : Lay} (h : Aud w g n l y) {p : Option Addr} {L : List Fl} (c : Nat) (hL : FlsAt w p L) (hsb : ∀ x ∈ L, (0 ≤ x.s ∧ x.s ≤ 4294967295) ∧ (0 ≤ x.b ∧ x.b ≤ 4294967295)) (ent : Fl → List (Int × ByteArray)) (hok : ∀ x ∈ L, x.k = 2 → DirAll l L ent x) :
    Calls Tryz.prog 119 #[.pointer (some ⟨g, 0, none⟩), .slice p L.length c] w fun e w' => e = .returned (.slice none 0 0) ∧ Below w.heap.size w w' := by
  have z := zero230
  have HX : Hid _ := heap_alloc_new w (.cells #[.int .u8 13, .slice none 0 0] 235)
  have HB : Hid _ := below_new w (.cells #[.int .u8 13, .slice none 0 0] 235)
  have HA : Hid _ := h
  have HL : Hid _ := hL
  have HO : Hid _ := hok
  have HS : Hid _ := hsb
  have hlen := hL.len
  clear h hL hok hsb
  go_enter Tryz.func119, Tryz.ntmps119
  go_wp2
  generalize w.alloc (.cells #[.int .u8 13, .slice none 0 0] 235) = V at *
  go_loopw [6, 7] (fun s6 _ wx => ∃ i : Nat, i ≤ L.length ∧ s6 = .int .i64 i ∧ Hid (Below V.heap.size V wx)) (fun s6 _ _ => L.length - (intOf s6).toNat)
  case atStart => exact ⟨0, by omega, rfl, Below.refl _ _⟩
  case round =>
    obtain ⟨i, hi, rfl, HW⟩ := hrel
    have hbw := below_next HB.out HW.out
    by_cases hi2 : (i : Int) < (L.length : Int)
    · have hLw := HL.out.later hbw
      obtain ⟨gf, x, rfl, _, hxL, hcx⟩ := hLw.at (i := i) (by omega)
      have hs := HS.out x hxL
      have c1 : wr.cell? ⟨gf, i * 18 + 1, none⟩ = some (.int .u16 x.k) := hcx 1 _ rfl
      by_cases hk : x.k = 2
      · have hd := HO.out x hxL hk
        have hcall := badSlots29_ok (HA.out.later hbw) c hLw x (hLw.get hxL hs.1 hs.2) hd.inum (ent x) hd.ok.len hd.ok.max hd.ok.all hd.slo
        have hil : i < L.length := by omega
        rw [hk] at c1
        generalize L.length = N at *
        clear hs hLw hxL hk hd
        go_wp2_with (first | (with_reducible refine isLoadR 157 ?_; refine wpList_ldF rfl (.tmp 27) rfl gf (i * 18) x rfl hcx ?_) | (go_at_call 158; fail))
        refine hcall.mono ?_
        rintro e W ⟨rfl, hb⟩
        have HW2 : Hid (Below V.heap.size V W) := below_next HW.out hb
        clear hb hcall hcx HW hbw
        go_wp2
        exact ⟨⟨i + 1, by omega, by go_num, HW2.out⟩, by simp [intOf]; omega⟩
      · have g1 : (x.k == 2) = false := beq_eq_false_iff_ne.2 hk
        have hil : i < L.length := by omega
        have HW2 : Hid _ := HW.out
        clear hs hLw hxL hk hcx hbw HW
        generalize L.length = N at *
        go_wp2
        exact ⟨⟨i + 1, by omega, by go_num, HW2.out⟩, by simp [intOf]; omega⟩
    · have hx := heap_kept HX.out HW.out
      have c1 := Joins.cell_of_block hx 1
      have HR : Hid _ := hbw
      clear hx hbw HW HX HA HL HO HS
      go_wp2
      go_ret
      exact ⟨rfl, HR.out⟩
/-- How many places below m are not marked. -/
def noM (f : Nat → Bool) (m : Nat) : Nat := ((List.range m).filter fun i => !f i).length
theorem noM_succ (f : Nat → Bool) (m : Nat) : noM f (m + 1) = noM f m + if f m then 0 else 1 := by
  unfold noM
  rw [List.range_succ, List.filter_append, List.length_append]
  cases h : f m <;> simp [h]
theorem noM_upd {f : Nat → Bool} {i : Nat} : ∀ {m : Nat}, i < m → f i = false → noM (updB f i true) m + 1 = noM f m
  | 0, h, _ => by omega
  | m + 1, h, hf => by
    rw [noM_succ, noM_succ]
    by_cases e : i = m
    · subst e
      have : noM (updB f i true) i = noM f i := by
        unfold noM
        congr 1
        refine List.filter_congr fun j hj => ?_
        have := List.mem_range.1 hj
        unfold updB
        rw [if_neg (by omega)]
      rw [this, hf]
      unfold updB
      simp
    · have ih := noM_upd (m := m) (by omega) hf
      have e' : ¬ m = i := fun q => e q.symm
      unfold updB at ih ⊢
      rw [if_neg e']
      omega
/-- The marks so far: the root, and only what is come to. -/
structure ReSt (w W : World) (gr m : Nat) (f : Nat → Bool) : Prop where
  row : W.heap[gr]? = some (.cells (rowB f m) 4)
  one : f 1 = true
  far : w.heap.size ≤ gr
  bel : Below w.heap.size w W
theorem ReSt.set {w W : World} {gr m : Nat} {f : Nat → Bool} (h : ReSt w W gr m f) (i : Nat) : ReSt w (W.setCell ⟨gr, i, none⟩ (.bool true)) gr m (updB f i true) :=
  ⟨setCell_rowB h.row i true, by unfold updB; split; rfl; exact h.one, h.far, h.bel.trans ((Fr.setCell W gr i _).below (fun j q => by have := h.far; omega) h.bel.size)⟩
def isNo : Value → Bool
  | .bool false => true
  | _ => false
/-- How many cells of a row are not marked. -/
def noW (w : World) (g : Nat) : Nat := match w.heap[g]? with
  | some (.cells cs _ _) => (cs.toList.filter isNo).length
  | _ => 0
theorem noW_row {w : World} {g m : Nat} {f : Nat → Bool} (h : w.heap[g]? = some (.cells (rowB f m) 4)) : noW w g = noM f m := by
  unfold noW
  rw [h]
  show ((rowB f m).toList.filter isNo).length = noM f m
  unfold rowB noM
  rw [List.toList_toArray, List.filter_map, List.length_map]
  congr 1
  refine List.filter_congr fun j _ => ?_
  show isNo (.bool (f j)) = !f j
  cases f j <;> rfl
/-- A mark leads from each name's directory to its inode. -/
def Closed (nm : List (Int × Int)) (f : Nat → Bool) : Prop := ∀ s ∈ nm, f s.1.toNat = true → f s.2.toNat = true
def ReR (w W : World) (gr m : Nat) (nm : List (Int × Int)) (v : Value) : Prop := ∃ (b : Bool) (f : Nat → Bool), v = .bool b ∧ ReSt w W gr m f ∧ (b = false → Closed nm f)
set_option maxRecDepth 20000 in
set_option maxHeartbeats 4000000 in
theorem reached29_any {w : World} {g : Nat} {n : Int} {l : List Cel} {y : Lay} (h : Aud w g n l y) {p : Option Addr} {nm : List (Int × Int)} (c : Nat) (hL : LieG pc2 2 w p nm) (hlen : nm.length ≤ 1000000) {nI : Nat} (hi : y.i = nI) (hi1 : 1 ≤ nI ∧ nI ≤ 1000000) (hnm : ∀ s ∈ nm, (0 ≤ s.1 ∧ s.1 ≤ nI) ∧ (0 ≤ s.2 ∧ s.2 ≤ nI)) :
    Calls Tryz.prog 159 #[.pointer (some ⟨g, 0, none⟩), .slice p nm.length c] w fun e w' => ∃ gr f, e = .returned (.slice (some ⟨gr, 0, none⟩) (nI + 1) (nI + 1)) ∧ ReSt w w' gr (nI + 1) f ∧ Closed nm f := by
  have c4 : w.cell? ⟨g, 4, none⟩ = some (.int .i64 nI) := by
    obtain ⟨⟨p, cap, q, c, hr, _⟩, _, _⟩ := h
    have c4 := Joins.cell_of_block hr 4
    unfold dkRow at c4
    rwa [show y.i = nI from hi] at c4
  have hm := run_makeB w (nI + 1) (by omega)
  have e1 : IntKind.i64.wrap ((nI : Int) + 1) = ((nI + 1 : Nat) : Int) := by rw [IntKind.wrap_i64]; omega
  have e1' : (nI : Int) + 1 = ((nI + 1 : Nat) : Int) := by omega
  have HL : Hid (LieG pc2 2 w p nm) := hL
  have HN : Hid _ := hnm
  have HX : Hid _ := heap_alloc_new w (.cells (rowB allNo (nI + 1)) 4)
  have HB : Hid _ := below_new w (.cells (rowB allNo (nI + 1)) 4)
  have h1m : (1 : Nat) < nI + 1 := by omega
  have cb := cell_rowB (i := 1) HX.out (by omega)
  have fb := frozen_row HX.out 1
  have HR : Hid (ReSt w (w.alloc (.cells ((rowB allNo (nI + 1)).setIfInBounds 1 (.bool true)) 4)) w.heap.size (nI + 1) (updB allNo 1 true)) := ⟨by rw [heap_alloc_new, rowB_set], rfl, Nat.le_refl _, below_new _ _⟩
  clear h hL hi hnm HX HB
  generalize hmm : nI + 1 = m at *
  go_enter Tryz.func159, Tryz.ntmps159
  go_wp2
  clear cb fb hm c4 e1 e1'
  generalize w.alloc (.cells ((rowB allNo m).setIfInBounds 1 (.bool true)) 4) = V at *
  obtain ⟨gr, hgr⟩ : ∃ gr, w.heap.size = gr := ⟨_, rfl⟩
  rw [hgr] at HR ⊢
  go_loopw [6, 7] (fun s6 _ wx => ReR w wx gr m nm s6) (fun s6 _ wx => 2 * noW wx gr + (if isNo s6 then 0 else 1))
  case atStart => exact ⟨true, _, rfl, HR.out, fun q => by cases q⟩
  case round =>
    clear HR
    obtain ⟨b, f0, rfl, hR, hC⟩ := hrel
    have HR : Hid _ := hR
    have HC : Hid _ := hC
    clear hR hC
    cases b with
    | false =>
      have hC := HC.out rfl
      have HF : Hid (∃ f, ReSt w wr gr m f ∧ Closed nm f) := ⟨f0, HR.out, hC⟩
      clear hC HR HC HL HN
      generalize nm.length = N at *
      go_wp2
      go_ret
      obtain ⟨f, h1, h2⟩ := HF.out
      exact ⟨gr, f, rfl, h1, h2⟩
    | true =>
      clear HC
      have HMs : Hid (2 * noW wr gr + 1 = 2 * noM f0 m + 1) := by show _ = _; rw [noW_row HR.out.row]
      go_wp2
      go_loopw [6, 7] (fun s6 s7 wx => ∃ (i : Nat) (b : Bool) (f : Nat → Bool), i ≤ nm.length ∧ s7 = .int .i64 i ∧ s6 = .bool b ∧ Hid (ReSt w wx gr m f) ∧ Hid ((b = false ∧ f = f0 ∧ ∀ (j : Nat) s, j < i → nm[j]? = some s → f0 s.1.toNat = true → f0 s.2.toNat = true) ∨ (b = true ∧ noM f m < noM f0 m))) (fun _ s7 _ => nm.length - (intOf s7).toNat)
      case atStart => exact ⟨0, false, f0, by omega, rfl, rfl, HR.out, .inl ⟨rfl, rfl, fun j s hj => absurd hj (by omega)⟩⟩
      case round =>
        clear HR
        obtain ⟨i, b, f, hi, rfl, rfl, HR, HC⟩ := hrel
        by_cases hi2 : (i : Int) < (nm.length : Int)
        · have hbw := HR.out.bel
          obtain ⟨gn, rfl, hgn, hcn⟩ := (HL.out.later hbw) (by omega)
          have hsi : nm[i]? = some nm[i] := List.getElem?_eq_getElem (by omega)
          have d0 : wr.cell? ⟨gn, i * 2, none⟩ = some (.int .i64 (nm[i]).1) := hcn i _ hsi 0 _ rfl
          have d1 : wr.cell? ⟨gn, i * 2 + 1, none⟩ = some (.int .i64 (nm[i]).2) := hcn i _ hsi 1 _ rfl
          have hbd := HN.out _ (List.getElem_mem (l := nm) (n := i) (by omega))
          have hiN : i < nm.length := by omega
          obtain ⟨x, hx⟩ : ∃ x : Nat, (nm[i]).1 = (x : Int) := ⟨(nm[i]).1.toNat, by omega⟩
          obtain ⟨z, hz⟩ : ∃ z : Nat, (nm[i]).2 = (z : Int) := ⟨(nm[i]).2.toNat, by omega⟩
          have HSs : Hid (∀ j s, j < i + 1 → nm[j]? = some s → j < i ∨ (s.1.toNat = x ∧ s.2.toNat = z)) := fun j s hj hs => by
            by_cases e : j = i
            · subst e; rw [hsi] at hs; injection hs with hs; subst hs; exact .inr ⟨by omega, by omega⟩
            · exact .inl (by omega)
          rw [hx] at d0
          rw [hz] at d1
          have hxm : x < m := by omega
          have hzm : z < m := by omega
          have cx := cell_rowB (i := x) HR.out.row hxm
          have cz := cell_rowB (i := z) HR.out.row hzm
          have fz := frozen_row HR.out.row z
          have HS2 : Hid (ReSt w (wr.setCell ⟨gr, z, none⟩ (.bool true)) gr m (updB f z true)) := HR.out.set z
          have HM2 : Hid (f z = false → noM (updB f z true) m + 1 = noM f m) := fun q => noM_upd hzm q
          clear hbw hcn hsi hbd hx hz
          generalize hNl : nm.length = N at *
          cases hfx : f x with
          | false =>
            rw [hfx] at cx
            have HC2 : Hid ((b = false ∧ f = f0 ∧ ∀ (j : Nat) s, j < i + 1 → nm[j]? = some s → f0 s.1.toNat = true → f0 s.2.toNat = true) ∨ (b = true ∧ noM f m < noM f0 m)) := by
              rcases HC.out with ⟨h1, h2, h3⟩ | h
              · refine .inl ⟨h1, h2, fun j s hj hs hq => ?_⟩
                rcases HSs.out j s hj hs with h | ⟨h4, h5⟩
                · exact h3 j s h hs hq
                · rw [h4, ← h2, hfx] at hq; cases hq
              · exact .inr h
            clear HC HSs hfx HS2 HM2
            go_wp2
            exact ⟨⟨i + 1, b, f, by omega, by go_num, rfl, HR.out, HC2.out⟩, by simp [intOf]; omega⟩
          | true =>
            rw [hfx] at cx
            cases hfz : f z with
            | true =>
              rw [hfz] at cz
              have HC2 : Hid ((b = false ∧ f = f0 ∧ ∀ (j : Nat) s, j < i + 1 → nm[j]? = some s → f0 s.1.toNat = true → f0 s.2.toNat = true) ∨ (b = true ∧ noM f m < noM f0 m)) := by
                rcases HC.out with ⟨h1, h2, h3⟩ | h
                · refine .inl ⟨h1, h2, fun j s hj hs hq => ?_⟩
                  rcases HSs.out j s hj hs with h | ⟨h4, h5⟩
                  · exact h3 j s h hs hq
                  · rw [h5, ← h2, hfz]
                · exact .inr h
              clear HC HSs hfx hfz HS2 HM2
              go_wp2
              exact ⟨⟨i + 1, b, f, by omega, by go_num, rfl, HR.out, HC2.out⟩, by simp [intOf]; omega⟩
            | false =>
              rw [hfz] at cz
              have HC2 : Hid (noM (updB f z true) m < noM f0 m) := by
                have := HM2.out hfz
                rcases HC.out with ⟨_, h2, _⟩ | ⟨_, h⟩
                · subst h2; show _ < _; omega
                · show _ < _; omega
              clear HC HSs hfx hfz HM2 HR
              go_wp2
              exact ⟨⟨i + 1, true, _, by omega, by go_num, rfl, HS2.out, .inr ⟨rfl, HC2.out⟩⟩, by simp [intOf]; omega⟩
        · obtain rfl : i = nm.length := by omega
          have HD : Hid ((2 * noW wr gr + (if isNo (.bool b) then 0 else 1) < 2 * noM f0 m + 1) ∧ (b = false → Closed nm f)) := by
            have e := noW_row HR.out.row
            rcases HC.out with ⟨h1, h2, h3⟩ | ⟨h1, h2⟩
            · subst h1; subst h2
              refine ⟨by rw [e]; simp [isNo], fun _ s hs => ?_⟩
              obtain ⟨j, hj⟩ := List.getElem?_of_mem hs
              exact h3 j s (List.getElem?_eq_some_iff.1 hj).1 hj
            · subst h1
              exact ⟨by rw [e]; simp [isNo]; omega, fun q => by cases q⟩
          have HE : Hid (ReR w wr gr m nm (.bool b)) := ⟨b, f, rfl, HR.out, HD.out.2⟩
          have HF : Hid (2 * noW wr gr + (if isNo (.bool b) then 0 else 1) < 2 * noM f0 m + 1) := HD.out.1
          clear HC HL HN HD HR
          generalize hNl : nm.length = N at *
          cases b with
          | false =>
            go_wp2
            exact ⟨HE.out, by rw [HMs.out]; exact HF.out⟩
          | true =>
            go_wp2
            exact ⟨HE.out, by have h1 := HMs.out; have h2 := HF.out; simp only [isNo, Bool.false_eq_true, if_false] at h2; omega⟩
end Go.Proofs.YtkcgbhagjkhcmaaGreat
/- The tree of directories, where it is as it must be. -/
namespace Go.Proofs.YtkcgbhagjkhcmaaGreat
open Go.RowKit Go.Maps
structure TreeOk (nm : List (Int × Int)) (es : List (Int × ByteArray)) (nI : Nat) (x : Fl) : Prop where
  le : x.inum ≤ nI
  root : x.inum = 1 → (parP nm 1).2 = 0 ∧ ∃ s, es[1]? = some (1, s)
  sub : ¬ x.inum = 1 → (parP nm x.inum).2 = 1 ∧ (∃ s, es[1]? = some ((parP nm x.inum).1, s)) ∧ ∀ f : Nat → Bool, f 1 = true → Closed nm f → f x.inum = true
theorem fl_all (x : Fl) : (flCells x).toArray.all (·.oneCell') = true := by
  rw [Array.all_eq_true_iff_forall_mem]
  intro v hv
  exact flCells_one x v (by simpa using hv)
theorem fl_two (x y : Fl) : (flCells x).toArray.size = (flCells y).toArray.size := rfl
def fl0 : Fl := ⟨0, 0, 0, 0, 0, nought, none, 0, []⟩
theorem zeroFl : ∀ w, (zeroValue 157).run Tryz.prog w = .ok (.agg (flCells fl0).toArray) w := zero155
set_option maxRecDepth 20000 in
set_option maxHeartbeats 8000000 in
theorem tree29_ok {w : World} {g : Nat} {n : Int} {l : List Cel} {y : Lay} (h : Aud w g n l y) {p pn : Option Addr} {L : List Fl} {nm : List (Int × Int)} (c cn : Nat) (hL : FlsAt w p L) (hN : LieG pc2 2 w pn nm) (hnl : nm.length ≤ 1000000) {nI : Nat} (hi : y.i = nI) (hi1 : 1 ≤ nI ∧ nI ≤ 1000000) (hnm : ∀ s ∈ nm, (0 ≤ s.1 ∧ s.1 ≤ nI) ∧ (0 ≤ s.2 ∧ s.2 ≤ nI)) (hsb : ∀ x ∈ L, (0 ≤ x.s ∧ x.s ≤ 4294967295) ∧ (0 ≤ x.b ∧ x.b ≤ 4294967295)) (ent : Fl → List (Int × ByteArray)) (hok : ∀ x ∈ L, x.k = 2 → ¬ x.lk = 0 → DirOk l ent x ∧ TreeOk nm (ent x) nI x) :
    Calls Tryz.prog 121 #[.pointer (some ⟨g, 0, none⟩), .slice p L.length c, .slice pn nm.length cn] w fun e w' => e = .returned (.slice none 0 0) ∧ Below w.heap.size w w' := by
  have z := zero230
  have z1 := zeroFl
  have HX : Hid _ := heap_alloc_new w (.cells #[.int .u8 14, .slice none 0 0] 235)
  have HB : Hid _ := below_new w (.cells #[.int .u8 14, .slice none 0 0] 235)
  have hre := reached29_any (h.later HB.out) cn (hN.later HB.out) hnl hi hi1 hnm
  have HA : Hid _ := h
  have HL : Hid _ := hL
  have HN : Hid (LieG pc2 2 w pn nm) := hN
  have HO : Hid _ := hok
  have HS : Hid _ := hsb
  have hlen := hL.len
  clear h hL hN hok hsb hnm
  go_enter Tryz.func121, Tryz.ntmps121
  go_wp2_with (first | (go_at_call 159; fail))
  refine hre.mono ?_
  rintro e V ⟨gr, f, rfl, hRe, hCl⟩
  have HX1 : Hid _ := heap_kept HX.out hRe.bel
  have HB1 : Hid (Below w.heap.size w V) := below_next HB.out hRe.bel
  have HRe : Hid _ := hRe
  have HCl : Hid (Closed nm f) := hCl
  clear hre hRe hCl HX HB
  generalize w.alloc (.cells #[.int .u8 14, .slice none 0 0] 235) = V0 at *
  go_wp2
  go_loopw [9, 10, 11, 12, 13, 14] (fun s9 _ _ _ _ _ wx => ∃ i : Nat, i ≤ L.length ∧ s9 = .int .i64 i ∧ Hid (Below V.heap.size V wx)) (fun s9 _ _ _ _ _ _ => L.length - (intOf s9).toNat)
  case atStart => exact ⟨0, by omega, rfl, Below.refl _ _⟩
  case round =>
    obtain ⟨i, hi, rfl, HW⟩ := hrel
    have hbw := below_next HB1.out HW.out
    by_cases hi2 : (i : Int) < (L.length : Int)
    · have hLw := HL.out.later hbw
      obtain ⟨gf, x, rfl, _, hxL, hcx⟩ := hLw.at (i := i) (by omega)
      have hil : i < L.length := by omega
      have hs := HS.out x hxL
      generalize L.length = N at *
      have hX : (wr.alloc (.cells (flCells x).toArray 157)).heap[wr.heap.size]? = some (.cells (flCells x).toArray 157) := heap_alloc_new _ _
      have hbX := below_new wr (.cells (flCells x).toArray 157)
      have HWX : Hid (Below V.heap.size V (wr.alloc (.cells (flCells x).toArray 157))) := below_next HW.out hbX
      have HFX : Hid (FlOk (wr.alloc (.cells (flCells x).toArray 157)) x) := (hLw.later hbX).get hxL hs.1 hs.2
      have HAX : Hid _ := (HA.out.later hbw).later hbX
      have HOx : Hid _ := HO.out x hxL
      have HI : Hid _ := fl_info x
      have HI2 : Hid _ := fl_all x
      clear hs hLw hbw hbX hxL
      go_upto_region 7 with (first | (with_reducible refine isLoadR 157 ?_; refine wpList_ldF rfl (.tmp 28) rfl gf (i * 18) x rfl hcx ?_) | (with_reducible refine isStoreR 157 ?_; refine wpList_stNew 157 rfl (.tmp 10) (.tmp 29) rfl wr.heap.size (flCells x).toArray (flCells fl0).toArray 157 HI.out (fl_two fl0 x) HI2.out rfl rfl rfl ?_))
      clear hcx HW
      generalize wr.alloc (.cells (flCells x).toArray 157) = X at *
      generalize wr.heap.size = gx at *
      have c0 : X.cell? ⟨gx, 0, none⟩ = some (.int .i64 (x.inum : Int)) := Joins.cell_of_block hX 0
      have c1 : X.cell? ⟨gx, 1, none⟩ = some (.int .u16 x.k) := Joins.cell_of_block hX 1
      have c2 : X.cell? ⟨gx, 2, none⟩ = some (.int .u16 x.lk) := Joins.cell_of_block hX 2
      by_cases hk : x.k = 2
      · rw [hk] at c1
        by_cases hlk : x.lk = 0
        · rw [hlk] at c2
          clear HOx hX hk hlk HFX HAX
          go_wp2
          exact ⟨⟨i + 1, by omega, by go_num, HWX.out⟩, by simp [intOf]; omega⟩
        · have g2 : (x.lk == 0) = false := beq_eq_false_iff_ne.2 hlk
          obtain ⟨hd, ht⟩ := HOx.out hk hlk
          have hsl := slots29_ok HAX.out x HFX.out (ent x) hd.len hd.max hd.all
          clear HOx hk hlk
          go_wp2_with (first | (with_reducible refine isLoadR 157 ?_; refine wpList_ldR 157 Tryz.underlying157 rfl rfl (.tmp 10) rfl gx rfl (flCells x).toArray 157 (0, 0) HI.out hX ?_) | (go_at_call 125; fail))
          refine hsl.mono ?_
          rintro r W1 ⟨v, rfl, hs1⟩
          have hx1 := heap_kept hX hs1.bel
          have HW1 : Hid (Below V.heap.size V W1) := below_next HWX.out hs1.bel
          obtain ⟨pe, ce, rfl, hlie⟩ := OwnG.lie enE_len hs1.own
          have hpa := parent29_any cn ((HN.out.later HB1.out).later HW1.out) hnl (x.inum : Int)
          have hrr := cell_rowB (i := x.inum) (heap_kept HRe.out.row HW1.out) (by have := ht.le; omega)
          clear hsl c0 c1 c2 g2 HWX HFX HAX hX
          have c0 : W1.cell? ⟨gx, 0, none⟩ = some (.int .i64 (x.inum : Int)) := Joins.cell_of_block hx1 0
          have hle := ht.le
          go_wp2_with (first | (go_at_call 160; fail))
          refine hpa.mono ?_
          rintro r W2 ⟨rfl, rfl⟩
          by_cases h1 : x.inum = 1
          · obtain ⟨hp0, s1, he1⟩ := ht.root h1
            have hpp : (parP nm (x.inum : Int)).2 = 0 := by rw [h1]; exact hp0
            have hl2 : 1 < (ent x).length := (List.getElem?_eq_some_iff.1 he1).1
            obtain ⟨ge, rfl, hge, hce⟩ := hlie (by omega)
            have d2 : W2.cell? ⟨ge, 2, none⟩ = some (.int .u16 1) := hce 1 _ he1 0 _ rfl
            rw [hpp]
            have c0' : W2.cell? ⟨gx, 0, none⟩ = some (.int .i64 1) := by rw [c0, h1]; rfl
            clear hpa hlie hce he1 ht hd hp0 hpp hrr hx1 hs1 c0
            generalize (parP nm (x.inum : Int)).1 = pd at *
            generalize (ent x).length = M at *
            go_wp2
            exact ⟨⟨i + 1, by omega, by go_num, HW1.out⟩, by simp [intOf]; omega⟩
          · obtain ⟨hp1, ⟨s1, he1⟩, hrch⟩ := ht.sub h1
            have hff := hrch f HRe.out.one HCl.out
            rw [hff] at hrr
            have hl2 : 1 < (ent x).length := (List.getElem?_eq_some_iff.1 he1).1
            obtain ⟨ge, rfl, hge, hce⟩ := hlie (by omega)
            have d2 : W2.cell? ⟨ge, 2, none⟩ = some (.int .u16 (parP nm (x.inum : Int)).1) := hce 1 _ he1 0 _ rfl
            have hbd := (hd.all 1 _ he1).bound
            rw [hp1]
            have g1 : ((x.inum : Int) == 1) = false := beq_eq_false_iff_ne.2 (by omega)
            have g1' : (x.inum == 1) = false := beq_eq_false_iff_ne.2 (by omega)
            have hxl : x.inum < nI + 1 := by omega
            clear hpa hlie hce he1 ht hd hp1 hx1 hs1 hrch hff h1
            generalize (parP nm (x.inum : Int)).1 = pd at *
            replace hbd : 0 ≤ pd ∧ pd < 65536 := hbd
            have ew : IntKind.i64.wrap pd = pd := by rw [IntKind.wrap_i64]; omega
            generalize (ent x).length = M at *
            generalize x.inum = q at *
            go_wp2
            exact ⟨⟨i + 1, by omega, by go_num, HW1.out⟩, by simp [intOf]; omega⟩
      · have g1 : (x.k == 2) = false := beq_eq_false_iff_ne.2 hk
        have g1' : (x.k != 2) = true := by rw [bne, g1]; rfl
        clear HOx hX hk HFX HAX
        go_wp2
        exact ⟨⟨i + 1, by omega, by go_num, HWX.out⟩, by simp [intOf]; omega⟩
    · have hx := heap_kept HX1.out HW.out
      have c1 := Joins.cell_of_block hx 1
      have HR : Hid _ := hbw
      clear hx hbw HW HX1 HA HL HO HS HN HRe HCl
      go_wp2
      go_ret
      exact ⟨rfl, HR.out⟩
end Go.Proofs.YtkcgbhagjkhcmaaGreat
/- How many links there are, where they are counted right. -/
namespace Go.Proofs.YtkcgbhagjkhcmaaGreat
open Go.RowKit Go.Maps
/-- How many directories a directory names. -/
def subs (L : List Fl) (nm : List (Int × Int)) (i : Int) : Nat := (nm.filter fun s => s.1 == i && kindP L s.2 == 2).length
theorem subs_snoc (L : List Fl) (nm : List (Int × Int)) (i : Int) (s : Int × Int) : subs L (nm ++ [s]) i = subs L nm i + if (s.1 == i && kindP L s.2 == 2) then 1 else 0 := by
  unfold subs
  rw [List.filter_append, List.length_append]
  cases h : (s.1 == i && kindP L s.2 == 2) <;> simp [h]
theorem subs_le (L : List Fl) (nm : List (Int × Int)) (i : Int) : subs L nm i ≤ nm.length := List.length_filter_le _ _
def LinkOk (L : List Fl) (nm : List (Int × Int)) (x : Fl) : Prop := x.lk = if x.k = 2 ∧ ¬ x.lk = 0 then 2 + (subs L nm x.inum : Int) else (parP nm x.inum).2
set_option maxRecDepth 20000 in
set_option maxHeartbeats 8000000 in
theorem links29_ok {w : World} {g : Nat} {p pn : Option Addr} {L : List Fl} {nm : List (Int × Int)} (c cn : Nat) (hL : FlsAt w p L) (hN : LieG pc2 2 w pn nm) (hnl : nm.length ≤ 1000000) (hlb : ∀ x ∈ L, 0 ≤ x.lk ∧ x.lk < 65536) (hok : ∀ x ∈ L, LinkOk L nm x) :
    Calls Tryz.prog 122 #[.pointer (some ⟨g, 0, none⟩), .slice p L.length c, .slice pn nm.length cn] w fun e w' => e = .returned (.slice none 0 0) ∧ Below w.heap.size w w' := by
  have z := zero230
  have z1 := zeroFl
  have HX : Hid _ := heap_alloc_new w (.cells #[.int .u8 15, .slice none 0 0] 235)
  have HB : Hid _ := below_new w (.cells #[.int .u8 15, .slice none 0 0] 235)
  have HL : Hid _ := hL
  have HN : Hid (LieG pc2 2 w pn nm) := hN
  have HO : Hid _ := hok
  have HS : Hid _ := hlb
  have hlen := hL.len
  clear hL hN hok hlb
  generalize hLM : L.length = M at *
  generalize hNN : nm.length = N at *
  go_enter Tryz.func122, Tryz.ntmps122
  go_wp2
  generalize w.alloc (.cells #[.int .u8 15, .slice none 0 0] 235) = V at *
  go_loopw [8, 9, 10, 11, 12] (fun s8 _ _ _ _ wx => ∃ i : Nat, i ≤ M ∧ s8 = .int .i64 i ∧ Hid (Below V.heap.size V wx)) (fun s8 _ _ _ _ _ => M - (intOf s8).toNat)
  case atStart => exact ⟨0, by omega, rfl, Below.refl _ _⟩
  case round =>
    obtain ⟨i, hi, rfl, HW⟩ := hrel
    have hbw := below_next HB.out HW.out
    by_cases hi2 : (i : Int) < (M : Int)
    · have hLw := HL.out.later hbw
      obtain ⟨gf, x, rfl, _, hxL, hcx⟩ := hLw.at (i := i) (by omega)
      have hil : i < M := by omega
      have hs := HS.out x hxL
      have hX : (wr.alloc (.cells (flCells x).toArray 157)).heap[wr.heap.size]? = some (.cells (flCells x).toArray 157) := heap_alloc_new _ _
      have hbX := below_new wr (.cells (flCells x).toArray 157)
      have HWX : Hid (Below V.heap.size V (wr.alloc (.cells (flCells x).toArray 157))) := below_next HW.out hbX
      have HOx : Hid _ := HO.out x hxL
      have HI : Hid _ := fl_info x
      have HI2 : Hid _ := fl_all x
      have hpa := parent29_any cn ((HN.out.later hbw).later hbX) (by omega) (x.inum : Int)
      rw [hNN] at hpa
      clear hLw hbw hbX hxL
      go_upto_region 6 with (first | (with_reducible refine isLoadR 157 ?_; refine wpList_ldF rfl (.tmp 23) rfl gf (i * 18) x rfl hcx ?_) | (with_reducible refine isStoreR 157 ?_; refine wpList_stNew 157 rfl (.tmp 9) (.tmp 24) rfl wr.heap.size (flCells x).toArray (flCells fl0).toArray 157 HI.out (fl_two fl0 x) HI2.out rfl rfl rfl ?_))
      clear hcx HW
      generalize wr.alloc (.cells (flCells x).toArray 157) = X at *
      generalize wr.heap.size = gx at *
      have c0 : X.cell? ⟨gx, 0, none⟩ = some (.int .i64 (x.inum : Int)) := Joins.cell_of_block hX 0
      have c1 : X.cell? ⟨gx, 1, none⟩ = some (.int .u16 x.k) := Joins.cell_of_block hX 1
      have c2 : X.cell? ⟨gx, 2, none⟩ = some (.int .u16 x.lk) := Joins.cell_of_block hX 2
      go_wp2_with (first | (go_at_call 160; fail))
      refine hpa.mono ?_
      rintro r W2 ⟨rfl, rfl⟩
      have ewl : IntKind.i64.wrap x.lk = x.lk := by rw [IntKind.wrap_i64]; omega
      by_cases hd : x.k = 2 ∧ ¬ x.lk = 0
      · have g2 : (x.lk == 0) = false := beq_eq_false_iff_ne.2 hd.2
        have g2' : (x.lk != 0) = true := by rw [bne, g2]; rfl
        have HQ : Hid (x.lk = 2 + (subs L nm x.inum : Int)) := by
          have := HOx.out
          unfold LinkOk at this
          rwa [if_pos hd] at this
        rw [hd.1] at c1
        clear HOx hpa hd
        go_wp2
        go_loopw [11, 12] (fun s11 s12 wx => ∃ k : Nat, k ≤ N ∧ s12 = .int .i64 k ∧ s11 = .int .i64 (2 + (subs L (nm.take k) x.inum : Int)) ∧ Hid (Below W2.heap.size W2 wx)) (fun _ s12 _ => N - (intOf s12).toNat)
        case atStart => exact ⟨0, by omega, rfl, by simp [subs], Below.refl _ _⟩
        case round =>
          obtain ⟨k, hk, rfl, rfl, HK⟩ := hrel
          have hXk := heap_kept hX HK.out
          have b0 : wr.cell? ⟨gx, 0, none⟩ = some (.int .i64 (x.inum : Int)) := Joins.cell_of_block hXk 0
          have b2 : wr.cell? ⟨gx, 2, none⟩ = some (.int .u16 x.lk) := Joins.cell_of_block hXk 2
          have hbk := below_next (below_next HB.out HWX.out) HK.out
          by_cases hk2 : (k : Int) < (N : Int)
          · obtain ⟨gn, rfl, hgn, hcn⟩ := (HN.out.later hbk) (by omega)
            have hsk : nm[k]? = some nm[k] := List.getElem?_eq_getElem (by omega)
            have d0 : wr.cell? ⟨gn, k * 2, none⟩ = some (.int .i64 (nm[k]).1) := hcn k _ hsk 0 _ rfl
            have d1 : wr.cell? ⟨gn, k * 2 + 1, none⟩ = some (.int .i64 (nm[k]).2) := hcn k _ hsk 1 _ rfl
            have HSn : Hid (subs L (nm.take (k + 1)) x.inum = subs L (nm.take k) x.inum + if ((nm[k]).1 == (x.inum : Int) && kindP L (nm[k]).2 == 2) then 1 else 0) := by show _ = _; rw [take_snoc hsk, subs_snoc]
            have hkd : ∀ q, Calls Tryz.prog 161 #[.slice (some ⟨gf, 0, none⟩) M c, .int .i64 (nm[k]).2] (wr.drewN q) fun e w' => e = .returned (.int .u16 (kindP L (nm[k]).2)) ∧ w' = wr.drewN q := fun q => by rw [← hLM]; exact kind29_any c ((HL.out.later hbk).later (belowN (Below.refl _ _) q)) (nm[k]).2
            have hsl := subs_le L (nm.take k) x.inum
            rw [List.length_take] at hsl
            have hkl : k < N := by omega
            have HK2 : Hid (∀ q, Below W2.heap.size W2 (wr.drewN q)) := fun q => belowN HK.out q
            generalize (nm[k]).1 = s1 at *
            generalize (nm[k]).2 = s2 at *
            generalize kindP L s2 = kk at *
            obtain ⟨sb, hsb⟩ : ∃ sb, subs L (nm.take k) (x.inum : Int) = sb := ⟨_, rfl⟩
            rw [hsb] at HSn hsl ⊢
            clear hcn hsk hbk hXk HK hsb
            by_cases e1 : s1 = (x.inum : Int)
            · have g3 : (s1 == (x.inum : Int)) = true := by simp [e1]
              by_cases e2 : kk = 2
              · have HS3 : Hid (subs L (nm.take (k + 1)) x.inum = sb + 1) := by
                  have := HSn.out; rw [g3, e2] at this; exact (by simpa using this : _ = _)
                subst e2
                clear HSn e1
                generalize (x.inum : Int) = xi at *
                go_upto_region 12 with fail
                go_quiet ((go_at_call 161; exact (hkd _).mono fun _ _ h => ⟨h.1, ⟨_, h.2⟩⟩))
                have ew3 : IntKind.i64.wrap (2 + (sb : Int) + 1) = 2 + ((sb + 1 : Nat) : Int) := by rw [IntKind.wrap_i64]; omega
                go_wp2
                exact ⟨⟨k + 1, by omega, by go_num, by rw [HS3.out]; go_num, HK2.out _⟩, by simp [intOf]; omega⟩
              · have g4 : (kk == 2) = false := beq_eq_false_iff_ne.2 e2
                have HS3 : Hid (subs L (nm.take (k + 1)) x.inum = sb) := by
                  have := HSn.out; rw [g3, g4] at this; exact (by simpa using this : _ = _)
                clear HSn e1 e2
                generalize (x.inum : Int) = xi at *
                go_upto_region 12 with fail
                go_quiet ((go_at_call 161; exact (hkd _).mono fun _ _ h => ⟨h.1, ⟨_, h.2⟩⟩))
                go_wp2
                exact ⟨⟨k + 1, by omega, by go_num, by rw [HS3.out], HK2.out _⟩, by simp [intOf]; omega⟩
            · have g3 : (s1 == (x.inum : Int)) = false := beq_eq_false_iff_ne.2 e1
              have HS3 : Hid (subs L (nm.take (k + 1)) x.inum = sb) := by
                have := HSn.out; rw [g3] at this; exact (by simpa using this : _ = _)
              clear HSn e1 hkd
              generalize (x.inum : Int) = xi at *
              go_upto_region 12 with fail
              go_quiet (fail)
              go_wp2
              exact ⟨⟨k + 1, by omega, by go_num, by rw [HS3.out], HK2.out _⟩, by simp [intOf]; omega⟩
          · obtain rfl : k = N := by omega
            have HF : Hid (Below V.heap.size V wr) := below_next HWX.out HK.out
            rw [show nm.take k = nm by rw [← hNN, List.take_length]]
            have hq := HQ.out
            have HQ2 : Hid (2 + (subs L nm x.inum : Int) = x.lk) := hq.symm
            rw [HQ2.out]
            clear hq HQ HQ2 HK hbk hXk
            go_wp2
            exact ⟨⟨i + 1, by omega, by go_num, HF.out⟩, by simp [intOf]; omega⟩
      · have HQ : Hid ((parP nm (x.inum : Int)).2 = x.lk) := by
          have := HOx.out
          unfold LinkOk at this
          rw [if_neg hd] at this
          exact this.symm
        rw [HQ.out]
        generalize (parP nm (x.inum : Int)).1 = pd at *
        clear HOx hpa HQ
        by_cases hk : x.k = 2
        · have hl0 : x.lk = 0 := by
            by_cases q : x.lk = 0
            · exact q
            · exact absurd ⟨hk, q⟩ hd
          rw [hk] at c1
          rw [hl0] at c2 ⊢
          clear hd hk hl0 hs ewl hX
          go_wp2
          exact ⟨⟨i + 1, by omega, by go_num, HWX.out⟩, by simp [intOf]; omega⟩
        · have g1 : (x.k == 2) = false := beq_eq_false_iff_ne.2 hk
          clear hd hk hX
          go_wp2
          exact ⟨⟨i + 1, by omega, by go_num, HWX.out⟩, by simp [intOf]; omega⟩
    · have hx := heap_kept HX.out HW.out
      have c1 := Joins.cell_of_block hx 1
      have HR : Hid _ := hbw
      clear hx hbw HW HX HL HO HS HN
      go_wp2
      go_ret
      exact ⟨rfl, HR.out⟩
end Go.Proofs.YtkcgbhagjkhcmaaGreat
