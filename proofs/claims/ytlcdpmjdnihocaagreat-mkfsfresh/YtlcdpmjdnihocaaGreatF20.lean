/- Several texts joined, each with its own remark; no condition. -/
import Derived.Test.YtlcdpmjdnihocaaGreatF19
import Derived.BigQuiet
import Derived.Test.YtlcdpmjdnihocaaGreatF4
/- The entries of a directory that are as they must be: nothing is wrong with them. -/
namespace Go.Proofs.YtlcdpmjdnihocaaGreat
open Go.RowKit Go.Maps
def bDot : ByteArray := ⟨#[46]⟩
def bDots : ByteArray := ⟨#[46, 46]⟩
structure SlotsOk (L : List Fl) (x : Fl) (es : List (Int × ByteArray)) : Prop where
  dot : es[0]? = some ((x.inum : Int), bDot)
  dots : ∃ p, es[1]? = some (p, bDots)
  used : ∀ (i : Nat) e, es[i]? = some e → ¬ e.1 = 0 → usedP L e.1 = true
  nd : ∀ (i : Nat) e, es[i]? = some e → 1 < i → ¬ e.1 = 0 → ¬ e.2 = bDot ∧ ¬ e.2 = bDots
  ne : ∀ (i k : Nat) e f, es[i]? = some e → es[k]? = some f → k < i → ¬ e.1 = 0 → ¬ f.2 = e.2
theorem ba_ne {a b : ByteArray} (h : ¬ a = b) : ¬ a.toList = b.toList := fun q => by
  rw [ByteArray.toList_eq, ByteArray.toList_eq] at q
  exact h (ByteArray.ext (Array.toList_inj.mp q))
theorem ba_neB {a b : ByteArray} (h : ¬ a = b) : (a.toList == b.toList) = false := beq_eq_false_iff_ne.2 (ba_ne h)
theorem ba_one : bDot.toList = [46] := by rw [ByteArray.toList_eq]; rfl
theorem ba_two : bDots.toList = [46, 46] := by rw [ByteArray.toList_eq]; rfl
theorem fl_info (x : Fl) : (Tryz.prog.info? 114).map (·.size) = some (flCells x).toArray.size := size155
set_option maxRecDepth 20000 in
set_option maxHeartbeats 4000000 in
theorem badSlots29_ok {w : World} {g : Nat} {n : Int} {l : List Cel} {y : Lay} (ha : Aud w g n l y) {p : Option Addr} {L : List Fl} (c : Nat) (hL : FlsAt w p L) (x : Fl) (h : FlOk w x) (hin : x.inum ≤ 65535) (es : List (Int × ByteArray)) (hm : x.s / 16 = es.length) (hes : es.length ≤ 100000) (hok : ∀ k e, es[k]? = some e → EntB (sloP l x.sp k) e) (hso : ¬ x.lk = 0 → SlotsOk L x es) :
    Calls Tryz.prog 127 #[.pointer (some ⟨g, 0, none⟩), .slice p L.length c, .agg (flCells x).toArray] w fun r w' => r = .returned (.bool false) ∧ Below w.heap.size w w' := by
  have hx := heap_alloc_new w (.cells (flCells x).toArray 114)
  have HX : Hid _ := hx
  have HB : Hid _ := below_new w (.cells (flCells x).toArray 114)
  have hsl := slots29_ok (ha.later HB.out) x ⟨h.lie.later HB.out, h.len, h.s, h.b⟩ es hm hes hok
  have HL : Hid _ := hL.later HB.out
  have HO : Hid _ := hok
  have HS : Hid _ := hso
  have hlen := hL.len
  clear ha hL h hm hok hso
  go_enter Tryz.func127, Tryz.ntmps127
  go_upto_region 1 with fail
  generalize w.alloc (.cells (flCells x).toArray 114) = V at *
  go_wp2_with (first | (with_reducible refine isLoadR 114 ?_; refine wpList_ldR 114 Tryz.underlying114 rfl rfl _ rfl w.heap.size rfl (flCells x).toArray 114 (0, 0) (fl_info x) HX.out ?_) | (go_at_call 89; fail))
  refine hsl.mono ?_
  rintro r W1 ⟨v, rfl, hs1⟩
  have hx1 := heap_kept HX.out hs1.bel
  have HB1 : Hid (Below w.heap.size w W1) := below_next HB.out hs1.bel
  have HL1 : Hid _ := HL.out.later hs1.bel
  have c2 : W1.cell? ⟨w.heap.size, 2, none⟩ = some (.int .u16 x.lk) := Joins.cell_of_block hx1 2
  have c0 : W1.cell? ⟨w.heap.size, 0, none⟩ = some (.int .i64 (x.inum : Int)) := Joins.cell_of_block hx1 0
  obtain ⟨pe, ce, rfl, hlie⟩ := OwnG.lie enE_len hs1.own
  have HE : Hid _ := hlie
  clear hx1 hs1 hlie hsl HX HL HB hx
  by_cases h0 : x.lk = 0
  · rw [h0] at c2
    clear h0 HS HO
    generalize es.length = M at *
    go_wp2
    go_ret
    exact ⟨rfl, HB1.out⟩
  · have hso := HS.out h0
    have g0 : (x.lk == 0) = false := beq_eq_false_iff_ne.2 h0
    obtain ⟨pp, hdd⟩ := hso.dots
    have hl2 : 2 ≤ es.length := by have := (List.getElem?_eq_some_iff.1 hdd).1; omega
    obtain ⟨ge, rfl, hge, hce⟩ := HE.out (by omega)
    have d0 : W1.cell? ⟨ge, 0, none⟩ = some (.int .u16 (x.inum : Int)) := hce 0 _ hso.dot 0 _ rfl
    have d1 : W1.cell? ⟨ge, 1, none⟩ = some (.string ⟨#[46]⟩) := hce 0 _ hso.dot 1 _ rfl
    have d3 : W1.cell? ⟨ge, 3, none⟩ = some (.string ⟨#[46, 46]⟩) := hce 1 _ hdd 1 _ rfl
    have e1 : IntKind.u16.wrap (x.inum : Int) = (x.inum : Int) := by rw [wrap_u16A]; omega
    have HC : Hid _ := hce
    have HSo : Hid _ := hso
    clear h0 HS hso hdd hce HE
    have hM0 : (0 : Nat) < es.length := by omega
    have hM1 : (1 : Nat) < es.length := by omega
    generalize hM : es.length = M at *
    go_upto_region 6 with fail
    go_quiet (fail)
    clear d0 d1 d3 c0 c2 g0 e1
    have HW0 : Hid (∀ q, Below W1.heap.size W1 (W1.drewN q)) := fun q => belowN (Below.refl _ _) q
    go_wp2
    go_loopw [9, 10, 11] (fun s9 _ _ wx => ∃ i : Nat, i ≤ M ∧ s9 = .int .i64 i ∧ Hid (Below W1.heap.size W1 wx)) (fun s9 _ _ _ => M - (intOf s9).toNat)
    case atStart => exact ⟨0, by omega, rfl, HW0.out _⟩
    case round =>
      clear HW0
      obtain ⟨i, hi, rfl, HW⟩ := hrel
      by_cases hi2 : (i : Int) < (M : Int)
      · have hei : es[i]? = some es[i] := List.getElem?_eq_getElem (by omega)
        have q0 : wr.cell? ⟨ge, i * 2, none⟩ = some (.int .u16 (es[i]).1) := (HW.out.cell (p := ⟨ge, i * 2, none⟩) hge).trans (HC.out i _ hei 0 _ rfl)
        have q1 : wr.cell? ⟨ge, i * 2 + 1, none⟩ = some (.string (es[i]).2) := (HW.out.cell (p := ⟨ge, i * 2 + 1, none⟩) hge).trans (HC.out i _ hei 1 _ rfl)
        have hbd := (HO.out i _ hei).bound
        have HU : Hid _ := HSo.out.used i _ hei
        have HN : Hid _ := HSo.out.nd i _ hei
        have HK : Hid (∀ (k : Nat) f, es[k]? = some f → k < i → ¬ (es[i]).1 = 0 → ¬ f.2 = (es[i]).2) := fun k f hf hk h0 => HSo.out.ne i k _ f hei hf hk h0
        have hiM : i < M := by omega
        generalize es[i] = e at *
        obtain ⟨e1, e2⟩ := e
        simp only at q0 q1 hbd HU HN HK
        have HQ1 : Hid (W1.cell? ⟨ge, i * 2 + 1, none⟩ = some (.string e2)) := HC.out i _ hei 1 _ rfl
        clear hei
        by_cases h0 : e1 = 0
        · subst h0
          clear HU HN HK
          go_wp2
          exact ⟨⟨i + 1, by omega, by go_num, HW.out⟩, by simp [intOf]; omega⟩
        · have g0 : (e1 == 0) = false := beq_eq_false_iff_ne.2 h0
          have ew : IntKind.i64.wrap e1 = e1 := by rw [IntKind.wrap_i64]; omega
          have hus := used29_any c (HL1.out.later HW.out) e1
          rw [HU.out h0] at hus
          have HKf : Hid _ := fun k f hf hk => HK.out k f hf hk h0
          have HN2 : Hid _ := fun q => HN.out q h0
          clear HU HN HK hbd h0
          go_wp2_with (first | (go_at_call 153; fail))
          refine hus.mono ?_
          rintro r W2 ⟨rfl, rfl⟩
          clear hus
          by_cases h1 : 1 < i
          · have g1 : decide ((1 : Int) < (i : Int)) = true := decide_eq_true (by omega)
            have g1' : decide (1 < i) = true := decide_eq_true h1
            have hn := HN2.out h1
            have g2 : (e2.toList == [46]) = false := by rw [← ba_one]; exact ba_neB hn.1
            have g2' : decide (e2.toList = [46]) = false := by rw [← ba_one]; exact decide_eq_false (ba_ne hn.1)
            have g3 : (e2.toList == [46, 46]) = false := by rw [← ba_two]; exact ba_neB hn.2
            have g3' : decide (e2.toList = [46, 46]) = false := by rw [← ba_two]; exact decide_eq_false (ba_ne hn.2)
            clear hn HN2 h1
            go_wp2
            go_loopw [11] (fun s11 wx => ∃ k : Nat, k ≤ i ∧ s11 = .int .i64 k ∧ Hid (Below W1.heap.size W1 wx)) (fun s11 _ => i - (intOf s11).toNat)
            case atStart => exact ⟨0, by omega, rfl, HW.out⟩
            case round =>
              clear HW q0 q1
              obtain ⟨k, hk, rfl, HW⟩ := hrel
              by_cases hk2 : (k : Int) < (i : Int)
              · have hek : es[k]? = some es[k] := List.getElem?_eq_getElem (by omega)
                have r1 : wr.cell? ⟨ge, k * 2 + 1, none⟩ = some (.string (es[k]).2) := (HW.out.cell (p := ⟨ge, k * 2 + 1, none⟩) hge).trans (HC.out k _ hek 1 _ rfl)
                have q1 : wr.cell? ⟨ge, i * 2 + 1, none⟩ = some (.string e2) := (HW.out.cell (p := ⟨ge, i * 2 + 1, none⟩) hge).trans HQ1.out
                have gk : ((es[k]).2.toList == e2.toList) = false := ba_neB (HKf.out k _ hek (by omega))
                have HW2 : Hid (∀ q, Below W1.heap.size W1 (wr.drewN q)) := fun q => belowN HW.out q
                have hkM : k < M := by omega
                generalize (es[k]).2 = fk at *
                clear hek HW
                go_upto_region 18 with fail
                go_quiet (fail)
                go_wp2
                exact ⟨⟨k + 1, by omega, by go_num, HW2.out _⟩, by simp [intOf]; omega⟩
              · obtain rfl : k = i := by omega
                clear HKf
                go_wp2
                exact ⟨⟨k + 1, by omega, by go_num, HW.out⟩, by simp [intOf]; omega⟩
          · have g1 : decide ((1 : Int) < (i : Int)) = false := decide_eq_false (by omega)
            have g1' : decide (1 < i) = false := decide_eq_false h1
            clear HN2 h1
            go_wp2
            go_loopw [11] (fun s11 wx => ∃ k : Nat, k ≤ i ∧ s11 = .int .i64 k ∧ Hid (Below W1.heap.size W1 wx)) (fun s11 _ => i - (intOf s11).toNat)
            case atStart => exact ⟨0, by omega, rfl, HW.out⟩
            case round =>
              clear HW q0 q1
              obtain ⟨k, hk, rfl, HW⟩ := hrel
              by_cases hk2 : (k : Int) < (i : Int)
              · have hek : es[k]? = some es[k] := List.getElem?_eq_getElem (by omega)
                have r1 : wr.cell? ⟨ge, k * 2 + 1, none⟩ = some (.string (es[k]).2) := (HW.out.cell (p := ⟨ge, k * 2 + 1, none⟩) hge).trans (HC.out k _ hek 1 _ rfl)
                have q1 : wr.cell? ⟨ge, i * 2 + 1, none⟩ = some (.string e2) := (HW.out.cell (p := ⟨ge, i * 2 + 1, none⟩) hge).trans HQ1.out
                have gk : ((es[k]).2.toList == e2.toList) = false := ba_neB (HKf.out k _ hek (by omega))
                have HW2 : Hid (∀ q, Below W1.heap.size W1 (wr.drewN q)) := fun q => belowN HW.out q
                have hkM : k < M := by omega
                generalize (es[k]).2 = fk at *
                clear hek HW
                go_upto_region 18 with fail
                go_quiet (fail)
                go_wp2
                exact ⟨⟨k + 1, by omega, by go_num, HW2.out _⟩, by simp [intOf]; omega⟩
              · obtain rfl : k = i := by omega
                clear HKf
                go_wp2
                exact ⟨⟨k + 1, by omega, by go_num, HW.out⟩, by simp [intOf]; omega⟩
      · obtain rfl : i = M := by omega
        have HR : Hid (Below w.heap.size w wr) := below_next HB1.out HW.out
        clear HW
        go_wp2
        go_ret
        exact ⟨rfl, HR.out⟩
end Go.Proofs.YtlcdpmjdnihocaaGreat
/- Rows of marks (true or false) as functions of their places; no condition. -/
namespace Go.Proofs.YtlcdpmjdnihocaaGreat
open Go.RowKit Go.Maps
def rowB (f : Nat → Bool) (n : Nat) : Array Value := ((List.range n).map fun i => Value.bool (f i)).toArray
def updB (f : Nat → Bool) (i : Nat) (x : Bool) : Nat → Bool := fun j => if j = i then x else f j
theorem rowB_size (f : Nat → Bool) (n : Nat) : (rowB f n).size = n := by simp [rowB]
theorem rowB_get (f : Nat → Bool) (n i : Nat) (h : i < n) : (rowB f n)[i]? = some (.bool (f i)) := by simp [rowB, h]
theorem rowB_ext {cs : Array Value} {f : Nat → Bool} {n : Nat} (hs : cs.size = n) (h : ∀ i, i < n → cs[i]? = some (.bool (f i))) : cs = rowB f n := by
  apply Array.ext_getElem?
  intro j
  by_cases hj : j < n
  · rw [h j hj, rowB_get _ _ _ hj]
  · rw [Array.getElem?_eq_none (by omega), Array.getElem?_eq_none (by rw [rowB_size]; omega)]
theorem rowB_set (f : Nat → Bool) (n i : Nat) (x : Bool) : (rowB f n).setIfInBounds i (.bool x) = rowB (updB f i x) n := by
  refine rowB_ext (by rw [Array.size_setIfInBounds, rowB_size]) fun j hj => ?_
  rw [Array.getElem?_setIfInBounds]
  by_cases e : i = j
  · subst e; simp [rowB_size, hj, updB]
  · have e' : ¬ j = i := fun q => e q.symm
    simp [e, e', rowB_get _ _ _ hj, updB]
theorem setCell_rowB {w : World} {g m : Nat} {f : Nat → Bool} {t : TypeId} (h : w.heap[g]? = some (.cells (rowB f m) t)) (i : Nat) (x : Bool) : (w.setCell ⟨g, i, none⟩ (.bool x)).heap[g]? = some (.cells (rowB (updB f i x) m) t) := by
  rw [heap_setCell_same _ _ _ _ _ _ h, rowB_set]
theorem cell_rowB {w : World} {g m : Nat} {f : Nat → Bool} {t : TypeId} (h : w.heap[g]? = some (.cells (rowB f m) t)) {i : Nat} (hi : i < m) : w.cell? ⟨g, i, none⟩ = some (.bool (f i)) := by
  rw [cell_of_row _ _ i _ t _ h, rowB_get _ _ _ hi]
def allNo : Nat → Bool := fun _ => false
theorem made_bools (n : Nat) : madeCells #[Value.bool false] n = rowB allNo n :=
  rowB_ext (by simp [madeCells]) fun j hj => by simp [madeCells, hj, Nat.mod_one, allNo]
theorem infoB4 : (Tryz.prog.info? 4).map (fun i => (i.zero, i.size, i.bytes)) = some (some (.bool false), 1, 1) := by kernel_rfl
theorem run_makeB (u : World) (n : Nat) (hn : n ≤ 281474976710656) :
    (Instr.makeSlice 189 (.int .i64 (n : Int)) (.int .i64 (n : Int))).run Tryz.prog u = .ok (.slice (some ⟨u.heap.size, 0, none⟩) n n) (u.alloc (.cells (rowB allNo n) 4)) := by
  obtain ⟨i0, hi0, hz0, hz1, hz2⟩ := info_parts infoB4
  have h := run_make (P := Tryz.prog) u 189 4 i0 (.bool false) Tryz.underlying189 hi0 hz0 .i64 .i64 n n (by omega) (Int.le_refl _) (by rw [hz2]; omega) (by omega)
  rw [Int.toNat_natCast, hz1] at h
  rw [h]
  simp [Value.cells, made_bools]
end Go.Proofs.YtlcdpmjdnihocaaGreat
/- The directories' entries, where all are as they must be; which inodes are come to from the root. -/
namespace Go.Proofs.YtlcdpmjdnihocaaGreat
open Go.RowKit Go.Maps
structure DirAll (l : List Cel) (L : List Fl) (ent : Fl → List (Int × ByteArray)) (x : Fl) : Prop where
  inum : x.inum ≤ 65535
  ok : DirOk l ent x
  slo : ¬ x.lk = 0 → SlotsOk L x (ent x)
set_option maxRecDepth 20000 in
set_option maxHeartbeats 4000000 in
theorem slotsF29_ok {w : World} {g : Nat} {n : Int} {l : List Cel} {y : Lay} (h : Aud w g n l y) {p : Option Addr} {L : List Fl} (c : Nat) (hL : FlsAt w p L) (hsb : ∀ x ∈ L, (0 ≤ x.s ∧ x.s ≤ 4294967295) ∧ (0 ≤ x.b ∧ x.b ≤ 4294967295)) (ent : Fl → List (Int × ByteArray)) (hok : ∀ x ∈ L, x.k = 2 → DirAll l L ent x) :
    Calls Tryz.prog 83 #[.pointer (some ⟨g, 0, none⟩), .slice p L.length c] w fun e w' => e = .returned (.slice none 0 0) ∧ Below w.heap.size w w' := by
  have z := zero230
  have HX : Hid _ := heap_alloc_new w (.cells #[.int .u8 13, .slice none 0 0] 181)
  have HB : Hid _ := below_new w (.cells #[.int .u8 13, .slice none 0 0] 181)
  have HA : Hid _ := h
  have HL : Hid _ := hL
  have HO : Hid _ := hok
  have HS : Hid _ := hsb
  have hlen := hL.len
  clear h hL hok hsb
  go_enter Tryz.func83, Tryz.ntmps83
  go_wp2
  generalize w.alloc (.cells #[.int .u8 13, .slice none 0 0] 181) = V at *
  go_loopw [6, 7] (fun s6 _ wx => ∃ i : Nat, i ≤ L.length ∧ s6 = .int .i64 i ∧ Hid (Below V.heap.size V wx)) (fun s6 _ _ => L.length - (intOf s6).toNat)
  case atStart => exact ⟨0, by omega, rfl, Below.refl _ _⟩
  case round =>
    obtain ⟨i, hi, rfl, HW⟩ := hrel
    have hbw := below_next HB.out HW.out
    by_cases hi2 : (i : Int) < (L.length : Int)
    · have hLw := HL.out.later hbw
      obtain ⟨gf, x, rfl, _, hxL, hcx⟩ := hLw.at (i := i) (by omega)
      have hs := HS.out x hxL
      have c1 : wr.cell? ⟨gf, i * 18 + 1, none⟩ = some (.int .u16 x.k) := hcx 1 _ rfl
      by_cases hk : x.k = 2
      · have hd := HO.out x hxL hk
        have hcall := badSlots29_ok (HA.out.later hbw) c hLw x (hLw.get hxL hs.1 hs.2) hd.inum (ent x) hd.ok.len hd.ok.max hd.ok.all hd.slo
        have hil : i < L.length := by omega
        rw [hk] at c1
        generalize L.length = N at *
        clear hs hLw hxL hk hd
        go_wp2_with (first | (with_reducible refine isLoadR 114 ?_; refine wpList_ldF rfl (.tmp 27) rfl gf (i * 18) x rfl hcx ?_) | (go_at_call 127; fail))
        refine hcall.mono ?_
        rintro e W ⟨rfl, hb⟩
        have HW2 : Hid (Below V.heap.size V W) := below_next HW.out hb
        clear hb hcall hcx HW hbw
        go_wp2
        exact ⟨⟨i + 1, by omega, by go_num, HW2.out⟩, by simp [intOf]; omega⟩
      · have g1 : (x.k == 2) = false := beq_eq_false_iff_ne.2 hk
        have hil : i < L.length := by omega
        have HW2 : Hid _ := HW.out
        clear hs hLw hxL hk hcx hbw HW
        generalize L.length = N at *
        go_wp2
        exact ⟨⟨i + 1, by omega, by go_num, HW2.out⟩, by simp [intOf]; omega⟩
    · have hx := heap_kept HX.out HW.out
      have c1 := Joins.cell_of_block hx 1
      have HR : Hid _ := hbw
      clear hx hbw HW HX HA HL HO HS
      go_wp2
      go_ret
      exact ⟨rfl, HR.out⟩
/-- How many places below m are not marked. -/
def noM (f : Nat → Bool) (m : Nat) : Nat := ((List.range m).filter fun i => !f i).length
theorem noM_succ (f : Nat → Bool) (m : Nat) : noM f (m + 1) = noM f m + if f m then 0 else 1 := by
  unfold noM
  rw [List.range_succ, List.filter_append, List.length_append]
  cases h : f m <;> simp [h]
theorem noM_upd {f : Nat → Bool} {i : Nat} : ∀ {m : Nat}, i < m → f i = false → noM (updB f i true) m + 1 = noM f m
  | 0, h, _ => by omega
  | m + 1, h, hf => by
    rw [noM_succ, noM_succ]
    by_cases e : i = m
    · subst e
      have : noM (updB f i true) i = noM f i := by
        unfold noM
        congr 1
        refine List.filter_congr fun j hj => ?_
        have := List.mem_range.1 hj
        unfold updB
        rw [if_neg (by omega)]
      rw [this, hf]
      unfold updB
      simp
    · have ih := noM_upd (m := m) (by omega) hf
      have e' : ¬ m = i := fun q => e q.symm
      unfold updB at ih ⊢
      rw [if_neg e']
      omega
/-- The marks so far: the root, and only what is come to. -/
structure ReSt (w W : World) (gr m : Nat) (f : Nat → Bool) : Prop where
  row : W.heap[gr]? = some (.cells (rowB f m) 4)
  one : f 1 = true
  far : w.heap.size ≤ gr
  bel : Below w.heap.size w W
theorem ReSt.set {w W : World} {gr m : Nat} {f : Nat → Bool} (h : ReSt w W gr m f) (i : Nat) : ReSt w (W.setCell ⟨gr, i, none⟩ (.bool true)) gr m (updB f i true) :=
  ⟨setCell_rowB h.row i true, by unfold updB; split; rfl; exact h.one, h.far, h.bel.trans ((Fr.setCell W gr i _).below (fun j q => by have := h.far; omega) h.bel.size)⟩
def isNo : Value → Bool
  | .bool false => true
  | _ => false
/-- How many cells of a row are not marked. -/
def noW (w : World) (g : Nat) : Nat := match w.heap[g]? with
  | some (.cells cs _ _) => (cs.toList.filter isNo).length
  | _ => 0
theorem noW_row {w : World} {g m : Nat} {f : Nat → Bool} (h : w.heap[g]? = some (.cells (rowB f m) 4)) : noW w g = noM f m := by
  unfold noW
  rw [h]
  show ((rowB f m).toList.filter isNo).length = noM f m
  unfold rowB noM
  rw [List.toList_toArray, List.filter_map, List.length_map]
  congr 1
  refine List.filter_congr fun j _ => ?_
  show isNo (.bool (f j)) = !f j
  cases f j <;> rfl
/-- A mark leads from each name's directory to its inode. -/
def Closed (nm : List (Int × Int)) (f : Nat → Bool) : Prop := ∀ s ∈ nm, f s.1.toNat = true → f s.2.toNat = true
def ReR (w W : World) (gr m : Nat) (nm : List (Int × Int)) (v : Value) : Prop := ∃ (b : Bool) (f : Nat → Bool), v = .bool b ∧ ReSt w W gr m f ∧ (b = false → Closed nm f)
set_option maxRecDepth 20000 in
set_option maxHeartbeats 4000000 in
theorem reached29_any {w : World} {g : Nat} {n : Int} {l : List Cel} {y : Lay} (h : Aud w g n l y) {p : Option Addr} {nm : List (Int × Int)} (c : Nat) (hL : LieG pc2 2 w p nm) (hlen : nm.length ≤ 1000000) {nI : Nat} (hi : y.i = nI) (hi1 : 1 ≤ nI ∧ nI ≤ 1000000) (hnm : ∀ s ∈ nm, (0 ≤ s.1 ∧ s.1 ≤ nI) ∧ (0 ≤ s.2 ∧ s.2 ≤ nI)) :
    Calls Tryz.prog 128 #[.pointer (some ⟨g, 0, none⟩), .slice p nm.length c] w fun e w' => ∃ gr f, e = .returned (.slice (some ⟨gr, 0, none⟩) (nI + 1) (nI + 1)) ∧ ReSt w w' gr (nI + 1) f ∧ Closed nm f := by
  have c4 : w.cell? ⟨g, 4, none⟩ = some (.int .i64 nI) := by
    obtain ⟨⟨p, cap, q, c, hr, _⟩, _, _⟩ := h
    have c4 := Joins.cell_of_block hr 4
    unfold dkRow at c4
    rwa [show y.i = nI from hi] at c4
  have hm := run_makeB w (nI + 1) (by omega)
  have e1 : IntKind.i64.wrap ((nI : Int) + 1) = ((nI + 1 : Nat) : Int) := by rw [IntKind.wrap_i64]; omega
  have e1' : (nI : Int) + 1 = ((nI + 1 : Nat) : Int) := by omega
  have HL : Hid (LieG pc2 2 w p nm) := hL
  have HN : Hid _ := hnm
  have HX : Hid _ := heap_alloc_new w (.cells (rowB allNo (nI + 1)) 4)
  have HB : Hid _ := below_new w (.cells (rowB allNo (nI + 1)) 4)
  have h1m : (1 : Nat) < nI + 1 := by omega
  have cb := cell_rowB (i := 1) HX.out (by omega)
  have fb := frozen_row HX.out 1
  have HR : Hid (ReSt w (w.alloc (.cells ((rowB allNo (nI + 1)).setIfInBounds 1 (.bool true)) 4)) w.heap.size (nI + 1) (updB allNo 1 true)) := ⟨by rw [heap_alloc_new, rowB_set], rfl, Nat.le_refl _, below_new _ _⟩
  clear h hL hi hnm HX HB
  generalize hmm : nI + 1 = m at *
  go_enter Tryz.func128, Tryz.ntmps128
  go_wp2
  clear cb fb hm c4 e1 e1'
  generalize w.alloc (.cells ((rowB allNo m).setIfInBounds 1 (.bool true)) 4) = V at *
  obtain ⟨gr, hgr⟩ : ∃ gr, w.heap.size = gr := ⟨_, rfl⟩
  rw [hgr] at HR ⊢
  go_loopw [6, 7] (fun s6 _ wx => ReR w wx gr m nm s6) (fun s6 _ wx => 2 * noW wx gr + (if isNo s6 then 0 else 1))
  case atStart => exact ⟨true, _, rfl, HR.out, fun q => by cases q⟩
  case round =>
    clear HR
    obtain ⟨b, f0, rfl, hR, hC⟩ := hrel
    have HR : Hid _ := hR
    have HC : Hid _ := hC
    clear hR hC
    cases b with
    | false =>
      have hC := HC.out rfl
      have HF : Hid (∃ f, ReSt w wr gr m f ∧ Closed nm f) := ⟨f0, HR.out, hC⟩
      clear hC HR HC HL HN
      generalize nm.length = N at *
      go_wp2
      go_ret
      obtain ⟨f, h1, h2⟩ := HF.out
      exact ⟨gr, f, rfl, h1, h2⟩
    | true =>
      clear HC
      have HMs : Hid (2 * noW wr gr + 1 = 2 * noM f0 m + 1) := by show _ = _; rw [noW_row HR.out.row]
      go_wp2
      go_loopw [6, 7] (fun s6 s7 wx => ∃ (i : Nat) (b : Bool) (f : Nat → Bool), i ≤ nm.length ∧ s7 = .int .i64 i ∧ s6 = .bool b ∧ Hid (ReSt w wx gr m f) ∧ Hid ((b = false ∧ f = f0 ∧ ∀ (j : Nat) s, j < i → nm[j]? = some s → f0 s.1.toNat = true → f0 s.2.toNat = true) ∨ (b = true ∧ noM f m < noM f0 m))) (fun _ s7 _ => nm.length - (intOf s7).toNat)
      case atStart => exact ⟨0, false, f0, by omega, rfl, rfl, HR.out, .inl ⟨rfl, rfl, fun j s hj => absurd hj (by omega)⟩⟩
      case round =>
        clear HR
        obtain ⟨i, b, f, hi, rfl, rfl, HR, HC⟩ := hrel
        by_cases hi2 : (i : Int) < (nm.length : Int)
        · have hbw := HR.out.bel
          obtain ⟨gn, rfl, hgn, hcn⟩ := (HL.out.later hbw) (by omega)
          have hsi : nm[i]? = some nm[i] := List.getElem?_eq_getElem (by omega)
          have d0 : wr.cell? ⟨gn, i * 2, none⟩ = some (.int .i64 (nm[i]).1) := hcn i _ hsi 0 _ rfl
          have d1 : wr.cell? ⟨gn, i * 2 + 1, none⟩ = some (.int .i64 (nm[i]).2) := hcn i _ hsi 1 _ rfl
          have hbd := HN.out _ (List.getElem_mem (l := nm) (n := i) (by omega))
          have hiN : i < nm.length := by omega
          obtain ⟨x, hx⟩ : ∃ x : Nat, (nm[i]).1 = (x : Int) := ⟨(nm[i]).1.toNat, by omega⟩
          obtain ⟨z, hz⟩ : ∃ z : Nat, (nm[i]).2 = (z : Int) := ⟨(nm[i]).2.toNat, by omega⟩
          have HSs : Hid (∀ j s, j < i + 1 → nm[j]? = some s → j < i ∨ (s.1.toNat = x ∧ s.2.toNat = z)) := fun j s hj hs => by
            by_cases e : j = i
            · subst e; rw [hsi] at hs; injection hs with hs; subst hs; exact .inr ⟨by omega, by omega⟩
            · exact .inl (by omega)
          rw [hx] at d0
          rw [hz] at d1
          have hxm : x < m := by omega
          have hzm : z < m := by omega
          have cx := cell_rowB (i := x) HR.out.row hxm
          have cz := cell_rowB (i := z) HR.out.row hzm
          have fz := frozen_row HR.out.row z
          have HS2 : Hid (ReSt w (wr.setCell ⟨gr, z, none⟩ (.bool true)) gr m (updB f z true)) := HR.out.set z
          have HM2 : Hid (f z = false → noM (updB f z true) m + 1 = noM f m) := fun q => noM_upd hzm q
          clear hbw hcn hsi hbd hx hz
          generalize hNl : nm.length = N at *
          cases hfx : f x with
          | false =>
            rw [hfx] at cx
            have HC2 : Hid ((b = false ∧ f = f0 ∧ ∀ (j : Nat) s, j < i + 1 → nm[j]? = some s → f0 s.1.toNat = true → f0 s.2.toNat = true) ∨ (b = true ∧ noM f m < noM f0 m)) := by
              rcases HC.out with ⟨h1, h2, h3⟩ | h
              · refine .inl ⟨h1, h2, fun j s hj hs hq => ?_⟩
                rcases HSs.out j s hj hs with h | ⟨h4, h5⟩
                · exact h3 j s h hs hq
                · rw [h4, ← h2, hfx] at hq; cases hq
              · exact .inr h
            clear HC HSs hfx HS2 HM2
            go_wp2
            exact ⟨⟨i + 1, b, f, by omega, by go_num, rfl, HR.out, HC2.out⟩, by simp [intOf]; omega⟩
          | true =>
            rw [hfx] at cx
            cases hfz : f z with
            | true =>
              rw [hfz] at cz
              have HC2 : Hid ((b = false ∧ f = f0 ∧ ∀ (j : Nat) s, j < i + 1 → nm[j]? = some s → f0 s.1.toNat = true → f0 s.2.toNat = true) ∨ (b = true ∧ noM f m < noM f0 m)) := by
                rcases HC.out with ⟨h1, h2, h3⟩ | h
                · refine .inl ⟨h1, h2, fun j s hj hs hq => ?_⟩
                  rcases HSs.out j s hj hs with h | ⟨h4, h5⟩
                  · exact h3 j s h hs hq
                  · rw [h5, ← h2, hfz]
                · exact .inr h
              clear HC HSs hfx hfz HS2 HM2
              go_wp2
              exact ⟨⟨i + 1, b, f, by omega, by go_num, rfl, HR.out, HC2.out⟩, by simp [intOf]; omega⟩
            | false =>
              rw [hfz] at cz
              have HC2 : Hid (noM (updB f z true) m < noM f0 m) := by
                have := HM2.out hfz
                rcases HC.out with ⟨_, h2, _⟩ | ⟨_, h⟩
                · subst h2; show _ < _; omega
                · show _ < _; omega
              clear HC HSs hfx hfz HM2 HR
              go_wp2
              exact ⟨⟨i + 1, true, _, by omega, by go_num, rfl, HS2.out, .inr ⟨rfl, HC2.out⟩⟩, by simp [intOf]; omega⟩
        · obtain rfl : i = nm.length := by omega
          have HD : Hid ((2 * noW wr gr + (if isNo (.bool b) then 0 else 1) < 2 * noM f0 m + 1) ∧ (b = false → Closed nm f)) := by
            have e := noW_row HR.out.row
            rcases HC.out with ⟨h1, h2, h3⟩ | ⟨h1, h2⟩
            · subst h1; subst h2
              refine ⟨by rw [e]; simp [isNo], fun _ s hs => ?_⟩
              obtain ⟨j, hj⟩ := List.getElem?_of_mem hs
              exact h3 j s (List.getElem?_eq_some_iff.1 hj).1 hj
            · subst h1
              exact ⟨by rw [e]; simp [isNo]; omega, fun q => by cases q⟩
          have HE : Hid (ReR w wr gr m nm (.bool b)) := ⟨b, f, rfl, HR.out, HD.out.2⟩
          have HF : Hid (2 * noW wr gr + (if isNo (.bool b) then 0 else 1) < 2 * noM f0 m + 1) := HD.out.1
          clear HC HL HN HD HR
          generalize hNl : nm.length = N at *
          cases b with
          | false =>
            go_wp2
            exact ⟨HE.out, by rw [HMs.out]; exact HF.out⟩
          | true =>
            go_wp2
            exact ⟨HE.out, by have h1 := HMs.out; have h2 := HF.out; simp only [isNo, Bool.false_eq_true, if_false] at h2; omega⟩
end Go.Proofs.YtlcdpmjdnihocaaGreat
/- The tree of directories, where it is as it must be. -/
namespace Go.Proofs.YtlcdpmjdnihocaaGreat
open Go.RowKit Go.Maps
structure TreeOk (nm : List (Int × Int)) (es : List (Int × ByteArray)) (nI : Nat) (x : Fl) : Prop where
  le : x.inum ≤ nI
  root : x.inum = 1 → (parP nm 1).2 = 0 ∧ ∃ s, es[1]? = some (1, s)
  sub : ¬ x.inum = 1 → (parP nm x.inum).2 = 1 ∧ (∃ s, es[1]? = some ((parP nm x.inum).1, s)) ∧ ∀ f : Nat → Bool, f 1 = true → Closed nm f → f x.inum = true
theorem fl_all (x : Fl) : (flCells x).toArray.all (·.oneCell') = true := by
  rw [Array.all_eq_true_iff_forall_mem]
  intro v hv
  exact flCells_one x v (by simpa using hv)
theorem fl_two (x y : Fl) : (flCells x).toArray.size = (flCells y).toArray.size := rfl
def fl0 : Fl := ⟨0, 0, 0, 0, 0, nought, none, 0, []⟩
theorem zeroFl : ∀ w, (zeroValue 114).run Tryz.prog w = .ok (.agg (flCells fl0).toArray) w := zero155
set_option maxRecDepth 20000 in
set_option maxHeartbeats 8000000 in
theorem tree29_ok {w : World} {g : Nat} {n : Int} {l : List Cel} {y : Lay} (h : Aud w g n l y) {p pn : Option Addr} {L : List Fl} {nm : List (Int × Int)} (c cn : Nat) (hL : FlsAt w p L) (hN : LieG pc2 2 w pn nm) (hnl : nm.length ≤ 1000000) {nI : Nat} (hi : y.i = nI) (hi1 : 1 ≤ nI ∧ nI ≤ 1000000) (hnm : ∀ s ∈ nm, (0 ≤ s.1 ∧ s.1 ≤ nI) ∧ (0 ≤ s.2 ∧ s.2 ≤ nI)) (hsb : ∀ x ∈ L, (0 ≤ x.s ∧ x.s ≤ 4294967295) ∧ (0 ≤ x.b ∧ x.b ≤ 4294967295)) (ent : Fl → List (Int × ByteArray)) (hok : ∀ x ∈ L, x.k = 2 → ¬ x.lk = 0 → DirOk l ent x ∧ TreeOk nm (ent x) nI x) :
    Calls Tryz.prog 85 #[.pointer (some ⟨g, 0, none⟩), .slice p L.length c, .slice pn nm.length cn] w fun e w' => e = .returned (.slice none 0 0) ∧ Below w.heap.size w w' := by
  have z := zero230
  have z1 := zeroFl
  have HX : Hid _ := heap_alloc_new w (.cells #[.int .u8 14, .slice none 0 0] 181)
  have HB : Hid _ := below_new w (.cells #[.int .u8 14, .slice none 0 0] 181)
  have hre := reached29_any (h.later HB.out) cn (hN.later HB.out) hnl hi hi1 hnm
  have HA : Hid _ := h
  have HL : Hid _ := hL
  have HN : Hid (LieG pc2 2 w pn nm) := hN
  have HO : Hid _ := hok
  have HS : Hid _ := hsb
  have hlen := hL.len
  clear h hL hN hok hsb hnm
  go_enter Tryz.func85, Tryz.ntmps85
  go_wp2_with (first | (go_at_call 128; fail))
  refine hre.mono ?_
  rintro e V ⟨gr, f, rfl, hRe, hCl⟩
  have HX1 : Hid _ := heap_kept HX.out hRe.bel
  have HB1 : Hid (Below w.heap.size w V) := below_next HB.out hRe.bel
  have HRe : Hid _ := hRe
  have HCl : Hid (Closed nm f) := hCl
  clear hre hRe hCl HX HB
  generalize w.alloc (.cells #[.int .u8 14, .slice none 0 0] 181) = V0 at *
  go_wp2
  go_loopw [9, 10, 11, 12, 13, 14] (fun s9 _ _ _ _ _ wx => ∃ i : Nat, i ≤ L.length ∧ s9 = .int .i64 i ∧ Hid (Below V.heap.size V wx)) (fun s9 _ _ _ _ _ _ => L.length - (intOf s9).toNat)
  case atStart => exact ⟨0, by omega, rfl, Below.refl _ _⟩
  case round =>
    obtain ⟨i, hi, rfl, HW⟩ := hrel
    have hbw := below_next HB1.out HW.out
    by_cases hi2 : (i : Int) < (L.length : Int)
    · have hLw := HL.out.later hbw
      obtain ⟨gf, x, rfl, _, hxL, hcx⟩ := hLw.at (i := i) (by omega)
      have hil : i < L.length := by omega
      have hs := HS.out x hxL
      generalize L.length = N at *
      have hX : (wr.alloc (.cells (flCells x).toArray 114)).heap[wr.heap.size]? = some (.cells (flCells x).toArray 114) := heap_alloc_new _ _
      have hbX := below_new wr (.cells (flCells x).toArray 114)
      have HWX : Hid (Below V.heap.size V (wr.alloc (.cells (flCells x).toArray 114))) := below_next HW.out hbX
      have HFX : Hid (FlOk (wr.alloc (.cells (flCells x).toArray 114)) x) := (hLw.later hbX).get hxL hs.1 hs.2
      have HAX : Hid _ := (HA.out.later hbw).later hbX
      have HOx : Hid _ := HO.out x hxL
      have HI : Hid _ := fl_info x
      have HI2 : Hid _ := fl_all x
      clear hs hLw hbw hbX hxL
      go_upto_region 7 with (first | (with_reducible refine isLoadR 114 ?_; refine wpList_ldF rfl (.tmp 28) rfl gf (i * 18) x rfl hcx ?_) | (with_reducible refine isStoreR 114 ?_; refine wpList_stNew 114 rfl (.tmp 10) (.tmp 29) rfl wr.heap.size (flCells x).toArray (flCells fl0).toArray 114 HI.out (fl_two fl0 x) HI2.out rfl rfl rfl ?_))
      clear hcx HW
      generalize wr.alloc (.cells (flCells x).toArray 114) = X at *
      generalize wr.heap.size = gx at *
      have c0 : X.cell? ⟨gx, 0, none⟩ = some (.int .i64 (x.inum : Int)) := Joins.cell_of_block hX 0
      have c1 : X.cell? ⟨gx, 1, none⟩ = some (.int .u16 x.k) := Joins.cell_of_block hX 1
      have c2 : X.cell? ⟨gx, 2, none⟩ = some (.int .u16 x.lk) := Joins.cell_of_block hX 2
      by_cases hk : x.k = 2
      · rw [hk] at c1
        by_cases hlk : x.lk = 0
        · rw [hlk] at c2
          clear HOx hX hk hlk HFX HAX
          go_wp2
          exact ⟨⟨i + 1, by omega, by go_num, HWX.out⟩, by simp [intOf]; omega⟩
        · have g2 : (x.lk == 0) = false := beq_eq_false_iff_ne.2 hlk
          obtain ⟨hd, ht⟩ := HOx.out hk hlk
          have hsl := slots29_ok HAX.out x HFX.out (ent x) hd.len hd.max hd.all
          clear HOx hk hlk
          go_wp2_with (first | (with_reducible refine isLoadR 114 ?_; refine wpList_ldR 114 Tryz.underlying114 rfl rfl (.tmp 10) rfl gx rfl (flCells x).toArray 114 (0, 0) HI.out hX ?_) | (go_at_call 89; fail))
          refine hsl.mono ?_
          rintro r W1 ⟨v, rfl, hs1⟩
          have hx1 := heap_kept hX hs1.bel
          have HW1 : Hid (Below V.heap.size V W1) := below_next HWX.out hs1.bel
          obtain ⟨pe, ce, rfl, hlie⟩ := OwnG.lie enE_len hs1.own
          have hpa := parent29_any cn ((HN.out.later HB1.out).later HW1.out) hnl (x.inum : Int)
          have hrr := cell_rowB (i := x.inum) (heap_kept HRe.out.row HW1.out) (by have := ht.le; omega)
          clear hsl c0 c1 c2 g2 HWX HFX HAX hX
          have c0 : W1.cell? ⟨gx, 0, none⟩ = some (.int .i64 (x.inum : Int)) := Joins.cell_of_block hx1 0
          have hle := ht.le
          go_wp2_with (first | (go_at_call 129; fail))
          refine hpa.mono ?_
          rintro r W2 ⟨rfl, rfl⟩
          by_cases h1 : x.inum = 1
          · obtain ⟨hp0, s1, he1⟩ := ht.root h1
            have hpp : (parP nm (x.inum : Int)).2 = 0 := by rw [h1]; exact hp0
            have hl2 : 1 < (ent x).length := (List.getElem?_eq_some_iff.1 he1).1
            obtain ⟨ge, rfl, hge, hce⟩ := hlie (by omega)
            have d2 : W2.cell? ⟨ge, 2, none⟩ = some (.int .u16 1) := hce 1 _ he1 0 _ rfl
            rw [hpp]
            have c0' : W2.cell? ⟨gx, 0, none⟩ = some (.int .i64 1) := by rw [c0, h1]; rfl
            clear hpa hlie hce he1 ht hd hp0 hpp hrr hx1 hs1 c0
            generalize (parP nm (x.inum : Int)).1 = pd at *
            generalize (ent x).length = M at *
            go_wp2
            exact ⟨⟨i + 1, by omega, by go_num, HW1.out⟩, by simp [intOf]; omega⟩
          · obtain ⟨hp1, ⟨s1, he1⟩, hrch⟩ := ht.sub h1
            have hff := hrch f HRe.out.one HCl.out
            rw [hff] at hrr
            have hl2 : 1 < (ent x).length := (List.getElem?_eq_some_iff.1 he1).1
            obtain ⟨ge, rfl, hge, hce⟩ := hlie (by omega)
            have d2 : W2.cell? ⟨ge, 2, none⟩ = some (.int .u16 (parP nm (x.inum : Int)).1) := hce 1 _ he1 0 _ rfl
            have hbd := (hd.all 1 _ he1).bound
            rw [hp1]
            have g1 : ((x.inum : Int) == 1) = false := beq_eq_false_iff_ne.2 (by omega)
            have g1' : (x.inum == 1) = false := beq_eq_false_iff_ne.2 (by omega)
            have hxl : x.inum < nI + 1 := by omega
            clear hpa hlie hce he1 ht hd hp1 hx1 hs1 hrch hff h1
            generalize (parP nm (x.inum : Int)).1 = pd at *
            replace hbd : 0 ≤ pd ∧ pd < 65536 := hbd
            have ew : IntKind.i64.wrap pd = pd := by rw [IntKind.wrap_i64]; omega
            generalize (ent x).length = M at *
            generalize x.inum = q at *
            go_wp2
            exact ⟨⟨i + 1, by omega, by go_num, HW1.out⟩, by simp [intOf]; omega⟩
      · have g1 : (x.k == 2) = false := beq_eq_false_iff_ne.2 hk
        have g1' : (x.k != 2) = true := by rw [bne, g1]; rfl
        clear HOx hX hk HFX HAX
        go_wp2
        exact ⟨⟨i + 1, by omega, by go_num, HWX.out⟩, by simp [intOf]; omega⟩
    · have hx := heap_kept HX1.out HW.out
      have c1 := Joins.cell_of_block hx 1
      have HR : Hid _ := hbw
      clear hx hbw HW HX1 HA HL HO HS HN HRe HCl
      go_wp2
      go_ret
      exact ⟨rfl, HR.out⟩
end Go.Proofs.YtlcdpmjdnihocaaGreat
