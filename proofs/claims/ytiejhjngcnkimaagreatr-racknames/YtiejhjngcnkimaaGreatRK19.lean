/- Several texts joined, each with its own remark; no condition. -/
import Derived.Test.YtiejhjngcnkimaaGreatRK18
import Derived.Test.YtiejhjngcnkimaaGreatRK14
import Derived.Test.YtiejhjngcnkimaaGreatRK16
import Derived.BigQuiet
import Derived.Deep.Cut
/- How many links there are, where they are counted right. -/
namespace Go.Proofs.YtiejhjngcnkimaaGreatR
open Go.RowKit Go.Maps
def subs (L : List Fl) (nm : List (Int × Int)) (i : Int) : Nat := (nm.filter fun s => s.1 == i && kindP L s.2 == 2).length
theorem subs_snoc (L : List Fl) (nm : List (Int × Int)) (i : Int) (s : Int × Int) : subs L (nm ++ [s]) i = subs L nm i + if (s.1 == i && kindP L s.2 == 2) then 1 else 0 := by
  unfold subs
  rw [List.filter_append, List.length_append]
  cases h : (s.1 == i && kindP L s.2 == 2) <;> simp [h]
theorem subs_le (L : List Fl) (nm : List (Int × Int)) (i : Int) : subs L nm i ≤ nm.length := List.length_filter_le _ _
def LinkOk (L : List Fl) (nm : List (Int × Int)) (x : Fl) : Prop := x.lk = if x.k = 2 ∧ ¬ x.lk = 0 then 2 + (subs L nm x.inum : Int) else (parP nm x.inum).2
set_option maxRecDepth 20000 in
set_option maxHeartbeats 8000000 in
theorem links29_ok {w : World} {g : Nat} {p pn : Option Addr} {L : List Fl} {nm : List (Int × Int)} (c cn : Nat) (hL : FlsAt w p L) (hN : LieG pc2 2 w pn nm) (hnl : nm.length ≤ 1000000) (hlb : ∀ x ∈ L, 0 ≤ x.lk ∧ x.lk < 65536) (hok : ∀ x ∈ L, LinkOk L nm x) :
    Calls Tryz.prog 193 #[.pointer (some ⟨g, 0, none⟩), .slice p L.length c, .slice pn nm.length cn] w fun e w' => e = .returned (.slice none 0 0) ∧ Below w.heap.size w w' := by
  have z := zero230
  have z1 := zeroFl
  have HX : Hid _ := heap_alloc_new w (.cells #[.int .u8 15, .slice none 0 0] 324)
  have HB : Hid _ := below_new w (.cells #[.int .u8 15, .slice none 0 0] 324)
  have HL : Hid _ := hL
  have HN : Hid (LieG pc2 2 w pn nm) := hN
  have HO : Hid _ := hok
  have HS : Hid _ := hlb
  have hlen := hL.len
  clear hL hN hok hlb
  generalize hLM : L.length = M at *
  generalize hNN : nm.length = N at *
  go_enter Tryz.func193, Tryz.ntmps193
  go_wp2
  generalize w.alloc (.cells #[.int .u8 15, .slice none 0 0] 324) = V at *
  go_loopw [8, 9, 10, 11, 12] (fun s8 _ _ _ _ wx => ∃ i : Nat, i ≤ M ∧ s8 = .int .i64 i ∧ Hid (Below V.heap.size V wx)) (fun s8 _ _ _ _ _ => M - (intOf s8).toNat)
  case atStart => exact ⟨0, by omega, rfl, Below.refl _ _⟩
  case round =>
    obtain ⟨i, hi, rfl, HW⟩ := hrel
    have hbw := below_next HB.out HW.out
    by_cases hi2 : (i : Int) < (M : Int)
    · have hLw := HL.out.later hbw
      obtain ⟨gf, x, rfl, _, hxL, hcx⟩ := hLw.at (i := i) (by omega)
      have hil : i < M := by omega
      have hs := HS.out x hxL
      have hX : (wr.alloc (.cells (flCells x).toArray 223)).heap[wr.heap.size]? = some (.cells (flCells x).toArray 223) := heap_alloc_new _ _
      have hbX := below_new wr (.cells (flCells x).toArray 223)
      have HWX : Hid (Below V.heap.size V (wr.alloc (.cells (flCells x).toArray 223))) := below_next HW.out hbX
      have HOx : Hid _ := HO.out x hxL
      have HI : Hid _ := fl_info x
      have HI2 : Hid _ := fl_all x
      have hpa := parent29_any cn ((HN.out.later hbw).later hbX) (by omega) (x.inum : Int)
      rw [hNN] at hpa
      clear hLw hbw hbX hxL
      go_upto_region 6 with (first | (with_reducible refine isLoadR 223 ?_; refine wpList_ldF rfl (.tmp 23) rfl gf (i * 18) x rfl hcx ?_) | (with_reducible refine isStoreR 223 ?_; refine wpList_stNew 223 rfl (.tmp 9) (.tmp 24) rfl wr.heap.size (flCells x).toArray (flCells fl0).toArray 223 HI.out (fl_two fl0 x) HI2.out rfl rfl rfl ?_))
      clear hcx HW
      generalize wr.alloc (.cells (flCells x).toArray 223) = X at *
      generalize wr.heap.size = gx at *
      have c0 : X.cell? ⟨gx, 0, none⟩ = some (.int .i64 (x.inum : Int)) := Joins.cell_of_block hX 0
      have c1 : X.cell? ⟨gx, 1, none⟩ = some (.int .u16 x.k) := Joins.cell_of_block hX 1
      have c2 : X.cell? ⟨gx, 2, none⟩ = some (.int .u16 x.lk) := Joins.cell_of_block hX 2
      go_wp2_with (first | (go_at_call 241; fail))
      refine hpa.mono ?_
      rintro r W2 ⟨rfl, rfl⟩
      have ewl : IntKind.i64.wrap x.lk = x.lk := by rw [IntKind.wrap_i64]; omega
      by_cases hd : x.k = 2 ∧ ¬ x.lk = 0
      · have g2 : (x.lk == 0) = false := beq_eq_false_iff_ne.2 hd.2
        have g2' : (x.lk != 0) = true := by rw [bne, g2]; rfl
        have HQ : Hid (x.lk = 2 + (subs L nm x.inum : Int)) := by
          have := HOx.out
          unfold LinkOk at this
          rwa [if_pos hd] at this
        rw [hd.1] at c1
        clear HOx hpa hd
        go_wp2
        go_loopw [11, 12] (fun s11 s12 wx => ∃ k : Nat, k ≤ N ∧ s12 = .int .i64 k ∧ s11 = .int .i64 (2 + (subs L (nm.take k) x.inum : Int)) ∧ Hid (Below W2.heap.size W2 wx)) (fun _ s12 _ => N - (intOf s12).toNat)
        case atStart => exact ⟨0, by omega, rfl, by simp [subs], Below.refl _ _⟩
        case round =>
          obtain ⟨k, hk, rfl, rfl, HK⟩ := hrel
          have hXk := heap_kept hX HK.out
          have b0 : wr.cell? ⟨gx, 0, none⟩ = some (.int .i64 (x.inum : Int)) := Joins.cell_of_block hXk 0
          have b2 : wr.cell? ⟨gx, 2, none⟩ = some (.int .u16 x.lk) := Joins.cell_of_block hXk 2
          have hbk := below_next (below_next HB.out HWX.out) HK.out
          by_cases hk2 : (k : Int) < (N : Int)
          · obtain ⟨gn, rfl, hgn, hcn⟩ := (HN.out.later hbk) (by omega)
            have hsk : nm[k]? = some nm[k] := List.getElem?_eq_getElem (by omega)
            have d0 : wr.cell? ⟨gn, k * 2, none⟩ = some (.int .i64 (nm[k]).1) := hcn k _ hsk 0 _ rfl
            have d1 : wr.cell? ⟨gn, k * 2 + 1, none⟩ = some (.int .i64 (nm[k]).2) := hcn k _ hsk 1 _ rfl
            have HSn : Hid (subs L (nm.take (k + 1)) x.inum = subs L (nm.take k) x.inum + if ((nm[k]).1 == (x.inum : Int) && kindP L (nm[k]).2 == 2) then 1 else 0) := by show _ = _; rw [take_snoc hsk, subs_snoc]
            have hkd : ∀ q, Calls Tryz.prog 242 #[.slice (some ⟨gf, 0, none⟩) M c, .int .i64 (nm[k]).2] (wr.drewN q) fun e w' => e = .returned (.int .u16 (kindP L (nm[k]).2)) ∧ w' = wr.drewN q := fun q => by rw [← hLM]; exact kind29_any c ((HL.out.later hbk).later (belowN (Below.refl _ _) q)) (nm[k]).2
            have hsl := subs_le L (nm.take k) x.inum
            rw [List.length_take] at hsl
            have hkl : k < N := by omega
            have HK2 : Hid (∀ q, Below W2.heap.size W2 (wr.drewN q)) := fun q => belowN HK.out q
            generalize (nm[k]).1 = s1 at *
            generalize (nm[k]).2 = s2 at *
            generalize kindP L s2 = kk at *
            obtain ⟨sb, hsb⟩ : ∃ sb, subs L (nm.take k) (x.inum : Int) = sb := ⟨_, rfl⟩
            rw [hsb] at HSn hsl ⊢
            clear hcn hsk hbk hXk HK hsb
            by_cases e1 : s1 = (x.inum : Int)
            · have g3 : (s1 == (x.inum : Int)) = true := by simp [e1]
              by_cases e2 : kk = 2
              · have HS3 : Hid (subs L (nm.take (k + 1)) x.inum = sb + 1) := by
                  have := HSn.out; rw [g3, e2] at this; exact (by simpa using this : _ = _)
                subst e2
                clear HSn e1
                generalize (x.inum : Int) = xi at *
                go_upto_region 12 with fail
                go_quiet ((go_at_call 242; exact (hkd _).mono fun _ _ h => ⟨h.1, ⟨_, h.2⟩⟩))
                have ew3 : IntKind.i64.wrap (2 + (sb : Int) + 1) = 2 + ((sb + 1 : Nat) : Int) := by rw [IntKind.wrap_i64]; omega
                go_wp2
                exact ⟨⟨k + 1, by omega, by go_num, by rw [HS3.out]; go_num, HK2.out _⟩, by simp [intOf]; omega⟩
              · have g4 : (kk == 2) = false := beq_eq_false_iff_ne.2 e2
                have HS3 : Hid (subs L (nm.take (k + 1)) x.inum = sb) := by
                  have := HSn.out; rw [g3, g4] at this; exact (by simpa using this : _ = _)
                clear HSn e1 e2
                generalize (x.inum : Int) = xi at *
                go_upto_region 12 with fail
                go_quiet ((go_at_call 242; exact (hkd _).mono fun _ _ h => ⟨h.1, ⟨_, h.2⟩⟩))
                go_wp2
                exact ⟨⟨k + 1, by omega, by go_num, by rw [HS3.out], HK2.out _⟩, by simp [intOf]; omega⟩
            · have g3 : (s1 == (x.inum : Int)) = false := beq_eq_false_iff_ne.2 e1
              have HS3 : Hid (subs L (nm.take (k + 1)) x.inum = sb) := by
                have := HSn.out; rw [g3] at this; exact (by simpa using this : _ = _)
              clear HSn e1 hkd
              generalize (x.inum : Int) = xi at *
              go_upto_region 12 with fail
              go_quiet (fail)
              go_wp2
              exact ⟨⟨k + 1, by omega, by go_num, by rw [HS3.out], HK2.out _⟩, by simp [intOf]; omega⟩
          · obtain rfl : k = N := by omega
            have HF : Hid (Below V.heap.size V wr) := below_next HWX.out HK.out
            rw [show nm.take k = nm by rw [← hNN, List.take_length]]
            have hq := HQ.out
            have HQ2 : Hid (2 + (subs L nm x.inum : Int) = x.lk) := hq.symm
            rw [HQ2.out]
            clear hq HQ HQ2 HK hbk hXk
            go_wp2
            exact ⟨⟨i + 1, by omega, by go_num, HF.out⟩, by simp [intOf]; omega⟩
      · have HQ : Hid ((parP nm (x.inum : Int)).2 = x.lk) := by
          have := HOx.out
          unfold LinkOk at this
          rw [if_neg hd] at this
          exact this.symm
        rw [HQ.out]
        generalize (parP nm (x.inum : Int)).1 = pd at *
        clear HOx hpa HQ
        by_cases hk : x.k = 2
        · have hl0 : x.lk = 0 := by
            by_cases q : x.lk = 0
            · exact q
            · exact absurd ⟨hk, q⟩ hd
          rw [hk] at c1
          rw [hl0] at c2 ⊢
          clear hd hk hl0 hs ewl hX
          go_wp2
          exact ⟨⟨i + 1, by omega, by go_num, HWX.out⟩, by simp [intOf]; omega⟩
        · have g1 : (x.k == 2) = false := beq_eq_false_iff_ne.2 hk
          clear hd hk hX
          go_wp2
          exact ⟨⟨i + 1, by omega, by go_num, HWX.out⟩, by simp [intOf]; omega⟩
    · have hx := heap_kept HX.out HW.out
      have c1 := Joins.cell_of_block hx 1
      have HR : Hid _ := hbw
      clear hx hbw HW HX HL HO HS HN
      go_wp2
      go_ret
      exact ⟨rfl, HR.out⟩
end Go.Proofs.YtiejhjngcnkimaaGreatR
/- A directory as the state has it. -/
namespace Go.Proofs.YtiejhjngcnkimaaGreatR
open Go.RowKit Go.Maps
def itRow (i k lk s b : Int) (dv sv : Value) : Array Value := #[.int .i64 i, .int .u16 k, .int .i64 lk, .int .i64 s, .int .i64 b, dv, sv]
theorem sizeIt : (Tryz.prog.info? 81).map (·.size) = some 7 := by kernel_rfl
theorem zeroIt : ∀ w, (zeroValue 81).run Tryz.prog w = .ok (.agg (itRow 0 0 0 0 0 (.slice none 0 0) (.slice none 0 0))) w := (zero_of_info (show (Tryz.prog.info? 81).map (fun i => (i.zero, i.size)) = some (some (.agg (itRow 0 0 0 0 0 (.slice none 0 0) (.slice none 0 0))), 7) by kernel_rfl)).1
theorem it_info (i k lk s b : Int) (dv sv : Value) : (Tryz.prog.info? 81).map (·.size) = some (itRow i k lk s b dv sv).size := sizeIt
theorem it_two (i k lk s b : Int) (dv sv : Value) (i' k' lk' s' b' : Int) (dv' sv' : Value) : (itRow i k lk s b dv sv).size = (itRow i' k' lk' s' b' dv' sv').size := rfl
theorem it_one (i k lk s b : Int) (p q : Option Addr) (m n c d : Nat) : (itRow i k lk s b (.slice p m c) (.slice q n d)).all (·.oneCell') = true := by simp [itRow, Value.oneCell']
theorem wpList_buildIt {ops : Array Oper} {rest : List Oper} {o : Oper} {a : Act} {w : World} {Q : Exit → Act → World → Prop} (hw : Region.wanted o (yielded ops a.tmps) = true) (x0 x1 x2 x3 x4 : Operand) (ho : o.op = .build 81 #[(0, x0), (1, x1), (2, x2), (3, x3), (4, x4)]) (i k lk s b : Int)
    (h0 : a.eval x0 = .int .i64 i) (h1 : a.eval x1 = .int .u16 k) (h2 : a.eval x2 = .int .i64 lk) (h3 : a.eval x3 = .int .i64 s) (h4 : a.eval x4 = .int .i64 b)
    (h : wpList Tryz.prog ops Q rest (a.put o.dst (.agg (itRow i k lk s b (.slice none 0 0) (.slice none 0 0)))) w) : wpList Tryz.prog ops Q (o :: rest) a w := by
  unfold wpList
  rw [if_pos hw]
  refine .inl ?_
  have z := zeroIt w
  have e : (execOp a.eval o).run Tryz.prog w = .ok (.value (.agg (itRow i k lk s b (.slice none 0 0) (.slice none 0 0)))) w := by
    unfold itRow at *
    generalize a.eval = E at *
    unfold execOp
    simp only [ho]
    simp [go_sem, h0, h1, h2, h3, h4, z]
  unfold Oper.wp
  rw [e]
  exact h
set_option maxRecDepth 20000 in
set_option maxHeartbeats 4000000 in
theorem item29_dir {w : World} {g : Nat} {n : Int} {l : List Cel} {y : Lay} (ha : Aud w g n l y) (x : Fl) (h : FlOk w x) (hk : x.k = 2) (hlk : 0 ≤ x.lk ∧ x.lk < 65536) (es : List (Int × ByteArray)) (hm : x.s / 16 = es.length) (hes : es.length ≤ 100000) (hok : ∀ k e, es[k]? = some e → EntB (sloP l x.sp k) e) :
    Calls Tryz.prog 130 #[.pointer (some ⟨g, 0, none⟩), .agg (flCells x).toArray] w fun r w' => ∃ v, r = .returned (.agg (itRow x.inum 2 x.lk x.s x.b (.slice none 0 0) v)) ∧ SlS w w' v es := by
  have z := zeroIt
  obtain ⟨A, hA⟩ : ∃ A, A = w.alloc (.cells (flCells x).toArray 223) := ⟨_, rfl⟩
  have hbA := below_new w (.cells (flCells x).toArray 223)
  rw [← hA] at hbA
  have hxA : A.heap[w.heap.size]? = some (.cells (flCells x).toArray 223) := by rw [hA]; exact heap_alloc_new _ _
  have hsA : A.heap.size = w.heap.size + 1 := by rw [hA]; simp
  obtain ⟨B, hB⟩ : ∃ B, B = A.alloc (.cells (itRow 0 0 0 0 0 (.slice none 0 0) (.slice none 0 0)) 81) := ⟨_, rfl⟩
  have hbB := below_new A (.cells (itRow 0 0 0 0 0 (.slice none 0 0) (.slice none 0 0)) 81)
  rw [← hB] at hbB
  have hrB : B.heap[w.heap.size + 1]? = some (.cells (itRow 0 0 0 0 0 (.slice none 0 0) (.slice none 0 0)) 81) := by rw [hB, ← hsA]; exact heap_alloc_new _ _
  have hsB : B.heap.size = w.heap.size + 2 := by rw [hB]; simp; omega
  have hxB := heap_kept hxA hbB
  obtain ⟨C, hC⟩ : ∃ C, C = B.alloc (.cells (itRow x.inum 2 x.lk x.s x.b (.slice none 0 0) (.slice none 0 0)) 81) := ⟨_, rfl⟩
  have hbC := below_new B (.cells (itRow x.inum 2 x.lk x.s x.b (.slice none 0 0) (.slice none 0 0)) 81)
  rw [← hC] at hbC
  have hiC : C.heap[w.heap.size + 2]? = some (.cells (itRow x.inum 2 x.lk x.s x.b (.slice none 0 0) (.slice none 0 0)) 81) := by rw [hC, ← hsB]; exact heap_alloc_new _ _
  have hbwC := below_next hbA (below_next hbB hbC)
  have hsl := slots29_ok (ha.later hbwC) x ⟨h.lie.later hbwC, h.len, h.s, h.b⟩ es hm hes hok
  have c0 : B.cell? ⟨w.heap.size, 0, none⟩ = some (.int .i64 (x.inum : Int)) := Joins.cell_of_block hxB 0
  have c1 : B.cell? ⟨w.heap.size, 1, none⟩ = some (.int .u16 x.k) := Joins.cell_of_block hxB 1
  have c2 : B.cell? ⟨w.heap.size, 2, none⟩ = some (.int .u16 x.lk) := Joins.cell_of_block hxB 2
  have c3 : B.cell? ⟨w.heap.size, 3, none⟩ = some (.int .u32 x.s) := Joins.cell_of_block hxB 3
  have c4 : B.cell? ⟨w.heap.size, 4, none⟩ = some (.int .u32 x.b) := Joins.cell_of_block hxB 4
  rw [hk] at c1
  have hs := h.s
  have hb := h.b
  have e1 : IntKind.i64.wrap x.lk = x.lk := by rw [IntKind.wrap_i64]; omega
  have e2 : IntKind.i64.wrap x.s = x.s := by rw [IntKind.wrap_i64]; omega
  have e3 : IntKind.i64.wrap x.b = x.b := by rw [IntKind.wrap_i64]; omega
  have HxC : Hid _ := heap_kept hxB hbC
  have HrC : Hid _ := heap_kept hrB hbC
  have HiC : Hid _ := hiC
  have HbC : Hid (Below w.heap.size w C) := hbwC
  have HI : Hid _ := fl_info x
  have HA : Hid (A = _) := hA
  have HB : Hid (B = _) := hB
  have HC : Hid (C = _) := hC
  have HsB : Hid (B.heap.size = _) := hsB
  clear ha h hm hok hxA hxB hrB hbB hbA hbC hbwC hs hb hA hB hC hsA hsB hiC
  go_enter Tryz.func130, Tryz.ntmps130
  go_upto_region 1 with fail
  rw [← HA.out, ← HB.out]
  go_upto_region 2 with (first | (with_reducible refine isBuildR 81 ?_; refine wpList_buildIt rfl (.tmp 8) (.tmp 11) (.tmp 15) (.tmp 19) (.tmp 23) rfl x.inum 2 x.lk x.s x.b rfl rfl rfl rfl rfl ?_) | (with_reducible refine isStoreR 81 ?_; refine wpList_stNew 81 rfl (.tmp 5) (.tmp 24) rfl B.heap.size (itRow x.inum 2 x.lk x.s x.b (.slice none 0 0) (.slice none 0 0)) (itRow 0 0 0 0 0 (.slice none 0 0) (.slice none 0 0)) 81 (it_info _ _ _ _ _ _ _) (it_two _ _ _ _ _ _ _ _ _ _ _ _ _ _) (it_one _ _ _ _ _ _ _ _ _ _ _) rfl rfl rfl ?_))
  rw [← HC.out, HsB.out]
  clear c0 c1 c2 c3 c4 HA HB HC HsB e1 e2 e3
  have d1 : C.cell? ⟨w.heap.size + 2, 1, none⟩ = some (.int .u16 2) := Joins.cell_of_block HiC.out 1
  go_wp2_with (first | (with_reducible refine isLoadR 223 ?_; refine wpList_ldR 223 Tryz.underlying223 rfl rfl (.tmp 3) rfl w.heap.size rfl (flCells x).toArray 223 (0, 0) HI.out HxC.out ?_) | (go_at_call 196; fail))
  refine hsl.mono ?_
  rintro r W1 ⟨v, rfl, hs1⟩
  have hi1 := heap_kept HiC.out hs1.bel
  have hr1 := heap_kept HrC.out hs1.bel
  obtain ⟨pe, ce, rfl, _⟩ := OwnG.lie enE_len hs1.own
  have d6 : W1.cell? ⟨w.heap.size + 2, 6, none⟩ = some (.slice none 0 0) := Joins.cell_of_block hi1 6
  have f6 := frozen_row hi1 6
  have hF := Fr.setCell W1 (w.heap.size + 2) 6 (.slice pe es.length ce)
  have hi2 : (W1.setCell ⟨w.heap.size + 2, 6, none⟩ (.slice pe es.length ce)).heap[w.heap.size + 2]? = some (.cells (itRow x.inum 2 x.lk x.s x.b (.slice none 0 0) (.slice pe es.length ce)) 81) := by
    rw [heap_setCell_same _ _ _ _ _ _ hi1]; rfl
  have hr2 := (hF.block _ (Array.getElem?_eq_some_iff.1 hr1).1 (by omega)).trans hr1
  have HSS : Hid (SlS w ((W1.setCell ⟨w.heap.size + 2, 6, none⟩ (.slice pe es.length ce)).setRow (w.heap.size + 1) (itRow x.inum 2 x.lk x.s x.b (.slice none 0 0) (.slice pe es.length ce))) (.slice pe es.length ce) es) := by
    have hsz := hs1.bel.size
    have hszC := HbC.out.size
    have hF2 := Fr.setRow (W1.setCell ⟨w.heap.size + 2, 6, none⟩ (.slice pe es.length ce)) (w.heap.size + 1) (itRow x.inum 2 x.lk x.s x.b (.slice none 0 0) (.slice pe es.length ce))
    have hC2 := (Array.getElem?_eq_some_iff.1 HiC.out).1
    refine ⟨own_frame (own_frame (hs1.own.mono hszC) hF fun b hb hT => ?_) hF2 fun b hb hT => ?_, ?_⟩
    · have := World.ownsRow.lt hs1.own b hb; omega
    · have := World.ownsRow.lt hs1.own b hb; omega
    · exact ((below_next HbC.out hs1.bel).trans (hF.below (fun j q => by omega) (by omega))).trans (hF2.below (fun j q => by omega) (by have := hF.size; omega))
  clear hs1 hsl hF d1
  generalize es.length = M at *
  go_wp2_with (first | (with_reducible refine isLoadR 81 ?_; refine wpList_ldR 81 Tryz.underlying81 rfl rfl (.tmp 5) rfl (w.heap.size + 2) rfl (itRow x.inum 2 x.lk x.s x.b (.slice none 0 0) (.slice pe M ce)) 81 (0, 0) (it_info _ _ _ _ _ _ _) hi2 ?_) | (with_reducible refine isStoreR 81 ?_; refine wpList_stR 81 rfl (.tmp 4) (.tmp 35) rfl (w.heap.size + 1) (itRow x.inum 2 x.lk x.s x.b (.slice none 0 0) (.slice pe M ce)) (itRow 0 0 0 0 0 (.slice none 0 0) (.slice none 0 0)) 81 (it_info _ _ _ _ _ _ _) (it_two _ _ _ _ _ _ _ _ _ _ _ _ _ _) (it_one _ _ _ _ _ _ _ _ _ _ _) rfl rfl hr2 ?_))
  exact retR Tryz.underlying81 rfl rfl (w.heap.size + 1) _ 81 (it_info _ _ _ _ _ _ _) rfl (setRow_heap _ _ _ _ _ _ hr2) rfl ⟨_, rfl, HSS.out⟩
end Go.Proofs.YtiejhjngcnkimaaGreatR
/- All that may be wrong with a disk, where nothing is. -/
namespace Go.Proofs.YtiejhjngcnkimaaGreatR
open Go.RowKit Go.Maps
structure FineL (y : Lay) (l : List Cel) (nI nB bB : Nat) (ent : Fl → List (Int × ByteArray)) (L : List Fl) : Prop where
  len2 : ∀ x ∈ L, x.sp.length ≤ 1000000
  sb : ∀ x ∈ L, (0 ≤ x.s ∧ x.s ≤ 4294967295) ∧ (0 ≤ x.b ∧ x.b ≤ 4294967295)
  lk : ∀ x ∈ L, 0 ≤ x.lk ∧ x.lk < 65536
  ptr : ∀ x ∈ L, ∀ s ∈ x.sp, dataB y s.2 = true
  blk : ∀ x ∈ L, ∀ s ∈ x.sp, 0 ≤ s.2 ∧ s.2 < nB
  tot : (allS L).length ≤ 100000000
  one : ∀ b, b < nB → cntS (allS L) b ≤ 1
  fine : ∀ x ∈ L, FineP l x 7 ∧ FineP l x 8 ∧ FineP l x 9 ∧ FineP l x 10 ∧ FineP l x 12
  bits : ∀ k i, k < bB → i < 8192 → hasP (atL l (y.bitsAt + (k : Int))) i = wantB y (allS L) nB (8192 * k + i)
  dirs : ∀ x ∈ L, x.k = 2 → DirAll l L ent x
  names : (namesP ent L).length ≤ 1000000
  nb : ∀ s ∈ namesP ent L, (0 ≤ s.1 ∧ s.1 ≤ nI) ∧ (0 ≤ s.2 ∧ s.2 ≤ nI)
  tree : ∀ x ∈ L, x.k = 2 → ¬ x.lk = 0 → TreeOk (namesP ent L) (ent x) nI x
  link : ∀ x ∈ L, LinkOk L (namesP ent L) x
structure FineA (y : Lay) (l : List Cel) (nI nN nB bB : Nat) (ent : Fl → List (Int × ByteArray)) : Prop where
  nodes : NodesOk y l nI nN
  i1 : 1 ≤ nI
  b : y.b = nB
  b1 : nB ≤ 100000000
  bi : y.bitsBlocks = bB
  bi1 : bB ≤ 1000000
  ba : 0 ≤ y.bitsAt ∧ y.bitsAt ≤ 1000000000
  all : ∀ L : List Fl, L.map Fl.core = filesK y l nI → FineL y l nI nB bB ent L
set_option maxRecDepth 20000 in
set_option maxHeartbeats 8000000 in
theorem wrong29_all {w : World} {g : Nat} {n : Int} {l : List Cel} {y : Lay} (ha : Aud w g n l y) {nI nN nB bB : Nat} {ent : Fl → List (Int × ByteArray)} (hf : FineA y l nI nN nB bB ent) :
    Calls Tryz.prog 128 #[.pointer (some ⟨g, 0, none⟩)] w fun e w' => e = .returned (.slice none 0 0) ∧ Below w.heap.size w w' := by
  have HA : Hid _ := ha
  have HF : Hid _ := hf
  have hc0 := nodes29_ok ha hf.nodes
  clear ha hf
  go_enter Tryz.func128, Tryz.ntmps128
  go_wp2_with (first | (go_at_call 185; fail))
  refine hc0.mono ?_
  rintro e W0 ⟨rfl, hb⟩
  have HB0 : Hid (Below w.heap.size w W0) := hb
  have hc := files29_any (HA.out.later hb) HF.out.nodes.i HF.out.nodes.i1 HF.out.nodes.at'
  clear hb hc0
  go_wp2_with (first | (go_at_call 129; fail))
  refine hc.mono ?_
  rintro e W1 ⟨v, rfl, ⟨L, hfa, hco⟩, hb⟩
  have hfl := HF.out.all L hco
  have hll : L.length ≤ 1000000 := by
    have h1 : L.length = (filesK y l nI).length := by rw [← hco, List.length_map]
    have h2 := filesK_len y l nI
    have h3 := HF.out.nodes.i1
    omega
  obtain ⟨p, c, rfl, hls⟩ := hfa.fls hll hfl.len2
  have HB1 : Hid (Below w.heap.size w W1) := below_next HB0.out hb
  have HL : Hid (FlsAt W1 p L) := hls
  have HFl : Hid _ := hfl
  have HA1 : Hid (Aud W1 g n l y) := HA.out.later HB1.out
  clear hb hc hfl hls hfa hco HB0 HA
  have HW1 : Hid (Below W1.heap.size W1 W1) := Below.refl _ _
  obtain ⟨N, hN⟩ : ∃ N, L.length = N := ⟨_, rfl⟩
  have HN : Hid (L.length = N) := hN
  rw [hN]
  clear hN hll
  have hc := pointers29_ok HA1.out c HL.out HFl.out.ptr
  rw [HN.out] at hc
  go_wp2_with (first | (go_at_call 186; fail))
  refine hc.mono ?_
  rintro e W2 ⟨rfl, hb⟩
  have HW2 : Hid (Below W1.heap.size W1 W2) := below_next HW1.out hb
  clear hc hb
  have hc := twice29_ok (HA1.out.later HW2.out) c (HL.out.later HW2.out) HF.out.b HF.out.b1 HFl.out.blk HFl.out.tot HFl.out.one
  rw [HN.out] at hc
  go_wp2_with (first | (go_at_call 187; fail))
  refine hc.mono ?_
  rintro e W3 ⟨rfl, hb⟩
  have HW3 : Hid (Below W1.heap.size W1 W3) := below_next HW2.out hb
  clear hc hb HW2
  have HWk : Hid (Below W1.heap.size W1 (W3.alloc (.cells #[.int .u8 7, .int .u8 8, .int .u8 9, .int .u8 10] 270))) := below_next HW3.out (below_new _ _)
  have HK : Hid ((W3.alloc (.cells #[.int .u8 7, .int .u8 8, .int .u8 9, .int .u8 10] 270)).heap[W3.heap.size]? = some (.cells #[.int .u8 7, .int .u8 8, .int .u8 9, .int .u8 10] 270)) := heap_alloc_new _ _
  clear HW3
  have zk := (zero_of_info (show (Tryz.prog.info? 270).map (fun i => (i.zero, i.size)) = some (some (.int .u8 0), 1) by kernel_rfl)).1
  go_wp2
  generalize W3.alloc (.cells #[.int .u8 7, .int .u8 8, .int .u8 9, .int .u8 10] 270) = V at *
  generalize W3.heap.size = gk at *
  go_loopw [3, 6] (fun _ s6 wx => ∃ i : Nat, i ≤ 4 ∧ s6 = .int .i64 i ∧ Hid (Below V.heap.size V wx)) (fun _ s6 _ => 4 - (intOf s6).toNat)
  case atStart => exact ⟨0, by omega, rfl, Below.refl _ _⟩
  case round =>
    obtain ⟨i, hi, rfl, HW⟩ := hrel
    have hbw := below_next HWk.out HW.out
    have hkr := heap_kept HK.out HW.out
    by_cases hi2 : (i : Int) < 4
    · obtain ⟨kd, hkd, hck⟩ : ∃ kd : Int, (∀ x ∈ L, FineP l x kd) ∧ wr.cell? ⟨gk, i, none⟩ = some (.int .u8 kd) := by
        have hh := HFl.out.fine
        rcases (show i = 0 ∨ i = 1 ∨ i = 2 ∨ i = 3 by omega) with rfl | rfl | rfl | rfl
        · exact ⟨7, fun x hx => (hh x hx).1, Joins.cell_of_block hkr 0⟩
        · exact ⟨8, fun x hx => (hh x hx).2.1, Joins.cell_of_block hkr 1⟩
        · exact ⟨9, fun x hx => (hh x hx).2.2.1, Joins.cell_of_block hkr 2⟩
        · exact ⟨10, fun x hx => (hh x hx).2.2.2.1, Joins.cell_of_block hkr 3⟩
      have hc := filesF29_ok (HA1.out.later hbw) c (HL.out.later hbw) kd HFl.out.sb hkd
      rw [HN.out] at hc
      have hi4 : i < 4 := by omega
      clear hkd hbw hkr
      go_wp2_with (first | (go_at_call 188; fail))
      refine hc.mono ?_
      rintro e W ⟨rfl, hb⟩
      have HW2 : Hid (Below V.heap.size V W) := below_next HW.out hb
      clear hc hb HW hck
      go_wp2
      exact ⟨⟨i + 1, by omega, by go_num, HW2.out⟩, by simp [intOf]; omega⟩
    · have HW4 : Hid (Below W1.heap.size W1 wr) := hbw
      clear hbw hkr HW
      obtain rfl : i = 4 := by omega
      have hc := bits29_ok (HA1.out.later HW4.out) c (HL.out.later HW4.out) HF.out.b HF.out.b1 HFl.out.blk HFl.out.tot HF.out.bi HF.out.bi1 HF.out.ba HFl.out.bits
      rw [HN.out] at hc
      go_wp2_with (first | (go_at_call 189; fail))
      refine hc.mono ?_
      rintro e W5 ⟨rfl, hb⟩
      have HW5 : Hid (Below W1.heap.size W1 W5) := below_next HW4.out hb
      clear hc hb HW4
      have hc := filesF29_ok (HA1.out.later HW5.out) c (HL.out.later HW5.out) 12 HFl.out.sb (fun x hx => (HFl.out.fine x hx).2.2.2.2)
      rw [HN.out] at hc
      go_wp2_with (first | (go_at_call 188; fail))
      refine hc.mono ?_
      rintro e W6 ⟨rfl, hb⟩
      have HW6 : Hid (Below W1.heap.size W1 W6) := below_next HW5.out hb
      clear hc hb HW5
      have hc := slotsF29_ok (HA1.out.later HW6.out) c (HL.out.later HW6.out) HFl.out.sb ent HFl.out.dirs
      rw [HN.out] at hc
      go_wp2_with (first | (go_at_call 190; fail))
      refine hc.mono ?_
      rintro e W7 ⟨rfl, hb⟩
      have HW7 : Hid (Below W1.heap.size W1 W7) := below_next HW6.out hb
      clear hc hb HW6
      have hc := names29_ok (HA1.out.later HW7.out) c (HL.out.later HW7.out) HFl.out.sb ent (fun x hx h2 _ => (HFl.out.dirs x hx h2).ok) HFl.out.names
      rw [HN.out] at hc
      go_wp2_with (first | (go_at_call 191; fail))
      refine hc.mono ?_
      rintro e W8 ⟨v, rfl, hnm⟩
      have HW8 : Hid (Below W1.heap.size W1 W8) := below_next HW7.out hnm.bel
      obtain ⟨pn, cn, rfl, hlie⟩ := OwnG.lie pc2_len hnm.own
      have HNm : Hid (LieG pc2 2 W8 pn (namesP ent L)) := hlie
      clear hc hnm HW7 hlie
      obtain ⟨M, hM⟩ : ∃ M, (namesP ent L).length = M := ⟨_, rfl⟩
      have HM : Hid ((namesP ent L).length = M) := hM
      rw [hM]
      clear hM
      have hc := tree29_ok (HA1.out.later HW8.out) c cn (HL.out.later HW8.out) HNm.out HFl.out.names HF.out.nodes.i ⟨HF.out.i1, HF.out.nodes.i1⟩ HFl.out.nb HFl.out.sb ent (fun x hx h2 h3 => ⟨(HFl.out.dirs x hx h2).ok, HFl.out.tree x hx h2 h3⟩)
      rw [HN.out, HM.out] at hc
      go_wp2_with (first | (go_at_call 192; fail))
      refine hc.mono ?_
      rintro e W9 ⟨rfl, hb⟩
      have HW9 : Hid (Below W1.heap.size W1 W9) := below_next HW8.out hb
      have hc2 := links29_ok (g := g) c cn (HL.out.later HW9.out) (HNm.out.later hb) HFl.out.names HFl.out.lk HFl.out.link
      rw [HN.out, HM.out] at hc2
      clear hc hb HW8 HNm
      go_wp2_with (first | (go_at_call 193; fail))
      refine hc2.mono ?_
      rintro e W10 ⟨rfl, hb⟩
      have HW10 : Hid (Below w.heap.size w W10) := below_next HB1.out (below_next HW9.out hb)
      clear hc2 hb HW9
      go_wp2
      go_ret
      exact ⟨rfl, HW10.out⟩
end Go.Proofs.YtiejhjngcnkimaaGreatR
/- The layout of a geometry that may be; the document's own words. -/
namespace Go.Proofs.YtiejhjngcnkimaaGreatR
open Go.RowKit Go.Maps
structure GeoOk (b l i : Nat) : Prop where
  b1 : 1 ≤ b
  b2 : b ≤ 1048576
  l1 : 32 ≤ l
  l2 : l ≤ 256
  i1 : 1 ≤ i
  i2 : i ≤ 65535
  fit : 1 + l + (i + 16) / 16 + (b + 8191) / 8192 < b
def layOf (b l i : Nat) : Lay := ⟨b, l, i, 1, ((1 + l : Nat) : Int), (((i + 16) / 16 : Nat) : Int), ((1 + l + (i + 16) / 16 : Nat) : Int), (((b + 8191) / 8192 : Nat) : Int), ((1 + l + (i + 16) / 16 + (b + 8191) / 8192 : Nat) : Int)⟩
def lay0 : Lay := ⟨0, 0, 0, 0, 0, 0, 0, 0, 0⟩
theorem sizeLay : (Tryz.prog.info? 61).map (·.size) = some 9 := by kernel_rfl
theorem zeroLay : ∀ w, (zeroValue 61).run Tryz.prog w = .ok (.agg (layRow lay0)) w := (zero_of_info (show (Tryz.prog.info? 61).map (fun i => (i.zero, i.size)) = some (some (.agg (layRow lay0)), 9) by kernel_rfl)).1
theorem lay_info (y : Lay) : (Tryz.prog.info? 61).map (·.size) = some (layRow y).size := sizeLay
theorem lay_two (y z : Lay) : (layRow y).size = (layRow z).size := rfl
theorem lay_one (y : Lay) : (layRow y).all (·.oneCell') = true := by simp [layRow, Value.oneCell']
def geoRow (b l i : Int) : Array Value := #[.int .i64 b, .int .i64 l, .int .i64 i]
theorem geo_info (b l i : Int) : (Tryz.prog.info? 26).map (·.size) = some (geoRow b l i).size := by show _ = some 3; kernel_rfl
def numAt (w : World) (g j : Nat) : Int := match w.cell? ⟨g, j, none⟩ with
  | some (.int _ x) => x
  | _ => 0
theorem numAt_eq {w : World} {g j : Nat} {k : IntKind} {x : Int} (h : w.cell? ⟨g, j, none⟩ = some (.int k x)) : numAt w g j = x := by unfold numAt; rw [h]
structure OfS (w W : World) (b l i : Int) (y : Lay) : Prop where
  geo : W.heap[w.heap.size]? = some (.cells (geoRow b l i) 26)
  res : W.heap[w.heap.size + 1]? = some (.cells (layRow lay0) 61)
  lay : W.heap[w.heap.size + 2]? = some (.cells (layRow y) 61)
  bel : Below w.heap.size w W
theorem OfS.set {w W : World} {b l i : Int} {y : Lay} (h : OfS w W b l i y) (j : Nat) (x : Int) (z : Lay) (hz : (layRow y).setIfInBounds j (.int .i64 x) = layRow z) : OfS w (W.setCell ⟨w.heap.size + 2, j, none⟩ (.int .i64 x)) b l i z := by
  have hF := Fr.setCell W (w.heap.size + 2) j (.int .i64 x)
  refine ⟨(hF.block _ (Array.getElem?_eq_some_iff.1 h.geo).1 (by omega)).trans h.geo, (hF.block _ (Array.getElem?_eq_some_iff.1 h.res).1 (by omega)).trans h.res, ?_, h.bel.trans (hF.below (fun j q => by omega) h.bel.size)⟩
  rw [heap_setCell_same _ _ _ _ _ _ h.lay, hz]
theorem wpList_buildLay {ops : Array Oper} {rest : List Oper} {o : Oper} {a : Act} {w : World} {Q : Exit → Act → World → Prop} (hw : Region.wanted o (yielded ops a.tmps) = true) (x0 x2 : Operand) (ho : o.op = .build 61 #[(0, x0), (1, .const (.int .i64 1)), (2, x2)]) (b l i q : Int)
    (h0 : a.eval x0 = .agg (geoRow b l i)) (h2 : a.eval x2 = .int .i64 q)
    (h : wpList Tryz.prog ops Q rest (a.put o.dst (.agg (layRow ⟨b, l, i, 1, q, 0, 0, 0, 0⟩))) w) : wpList Tryz.prog ops Q (o :: rest) a w := by
  unfold wpList
  rw [if_pos hw]
  refine .inl ?_
  have z := zeroLay w
  have hc : a.eval (.const (.int .i64 1)) = .int .i64 1 := rfl
  have e : (execOp a.eval o).run Tryz.prog w = .ok (.value (.agg (layRow ⟨b, l, i, 1, q, 0, 0, 0, 0⟩))) w := by
    unfold layRow lay0 at z
    unfold layRow
    unfold geoRow at h0
    generalize a.eval = E at *
    unfold execOp
    simp only [ho]
    simp [go_sem, h0, h2, hc, z]
  unfold Oper.wp
  rw [e]
  exact h
set_option maxRecDepth 20000 in
set_option maxHeartbeats 4000000 in
theorem of03_ok {b l i : Nat} (h : GeoOk b l i) (w : World) :
    Calls Tryz.prog 39 #[.agg (geoRow b l i)] w fun e w' => e = .returned (.tuple #[.agg (layRow (layOf b l i)), .int .i64 0]) ∧ Below w.heap.size w w' := by
  have z := zeroLay
  obtain ⟨h1, h2, h3, h4, h5, h6, h7⟩ := h
  obtain ⟨A, hA⟩ : ∃ A, A = (w.alloc (.cells (geoRow b l i) 26)).alloc (.cells (layRow lay0) 61) := ⟨_, rfl⟩
  have hbA : Below w.heap.size w A := by rw [hA]; exact below_next (below_new _ _) (below_new _ _)
  have hgA : A.heap[w.heap.size]? = some (.cells (geoRow b l i) 26) := by rw [hA]; exact heap_kept (heap_alloc_new _ _) (below_new _ _)
  have hrA : A.heap[w.heap.size + 1]? = some (.cells (layRow lay0) 61) := by rw [hA]; exact heap_two _ _ _
  have hsA : A.heap.size = w.heap.size + 2 := by rw [hA]; simp
  have c0 : A.cell? ⟨w.heap.size, 0, none⟩ = some (.int .i64 (b : Int)) := Joins.cell_of_block hgA 0
  have c1 : A.cell? ⟨w.heap.size, 1, none⟩ = some (.int .i64 (l : Int)) := Joins.cell_of_block hgA 1
  have c2 : A.cell? ⟨w.heap.size, 2, none⟩ = some (.int .i64 (i : Int)) := Joins.cell_of_block hgA 2
  have e1 : IntKind.i64.wrap (1 + (l : Int)) = ((1 + l : Nat) : Int) := by rw [IntKind.wrap_i64]; omega
  have HOf : Hid (OfS w (A.alloc (.cells (layRow ⟨b, l, i, 1, ((1 + l : Nat) : Int), 0, 0, 0, 0⟩) 61)) b l i ⟨b, l, i, 1, ((1 + l : Nat) : Int), ((0 : Nat) : Int), 0, ((0 : Nat) : Int), 0⟩) :=
    ⟨heap_kept hgA (below_new _ _), heap_kept hrA (below_new _ _), by rw [← hsA]; exact heap_alloc_new _ _, below_next hbA (below_new _ _)⟩
  have HA : Hid (A = _) := hA
  have HsA : Hid (A.heap.size = _) := hsA
  have HgA : Hid _ := hgA
  clear hA hsA hgA hrA hbA
  have t1 : decide ((l : Int) < 32) = false := decide_eq_false (by omega)
  have t2 : decide ((256 : Int) < (l : Int)) = false := decide_eq_false (by omega)
  have t3 : decide ((i : Int) < 1) = false := decide_eq_false (by omega)
  have t4 : decide ((65535 : Int) < (i : Int)) = false := decide_eq_false (by omega)
  have t5 : decide ((1048576 : Int) < (b : Int)) = false := decide_eq_false (by omega)
  have t6 : decide ((b : Int) < 1) = false := decide_eq_false (by omega)
  have t1' : decide (l < 32) = false := decide_eq_false (by omega)
  have t2' : decide (256 < l) = false := decide_eq_false (by omega)
  have t3' : decide (i < 1) = false := decide_eq_false (by omega)
  have t4' : decide (65535 < i) = false := decide_eq_false (by omega)
  have t5' : decide (1048576 < b) = false := decide_eq_false (by omega)
  have t6' : decide (b < 1) = false := decide_eq_false (by omega)
  go_enter Tryz.func39, Tryz.ntmps39
  go_upto_region 1 with fail
  rw [← HA.out]
  go_wp2_with (first | (with_reducible refine isLoadR 26 ?_; refine wpList_ldR 26 Tryz.underlying26 rfl rfl (.tmp 1) rfl w.heap.size rfl (geoRow b l i) 26 (0, 0) (geo_info _ _ _) HgA.out ?_) | (with_reducible refine isBuildR 61 ?_; refine wpList_buildLay rfl (.tmp 34) (.tmp 37) rfl b l i ((1 + l : Nat) : Int) rfl rfl ?_) | (with_reducible refine isStoreR 61 ?_; refine wpList_stNew 61 rfl (.tmp 4) (.tmp 38) rfl A.heap.size (layRow ⟨b, l, i, 1, ((1 + l : Nat) : Int), 0, 0, 0, 0⟩) (layRow lay0) 61 (lay_info _) (lay_two _ _) (lay_one _) rfl rfl rfl ?_))
  rw [HsA.out]
  generalize A.alloc (.cells (layRow ⟨b, l, i, 1, ((1 + l : Nat) : Int), 0, 0, 0, 0⟩) 61) = V at *
  clear HA HsA HgA t1 t2 t3 t4 t5 t6 t1' t2' t3' t4' t5' t6' c0 c1 c2 e1
  simp only [Act.put]
  go_loopw [45] (fun _ wx => ∃ k : Nat, k ≤ (i + 16) / 16 ∧ Hid (OfS w wx b l i ⟨b, l, i, 1, ((1 + l : Nat) : Int), (k : Int), 0, ((0 : Nat) : Int), 0⟩)) (fun _ wx => (i + 16) / 16 - (numAt wx (w.heap.size + 2) 5).toNat)
  case atStart => exact ⟨0, by omega, HOf.out⟩
  case round =>
    clear HOf
    obtain ⟨k, hk, HOf⟩ := hrel
    have d2 : wr.cell? ⟨w.heap.size, 2, none⟩ = some (.int .i64 (i : Int)) := Joins.cell_of_block HOf.out.geo 2
    have d5 : wr.cell? ⟨w.heap.size + 2, 5, none⟩ = some (.int .i64 (k : Int)) := Joins.cell_of_block HOf.out.lay 5
    have e2 : IntKind.i64.wrap (16 * (k : Int)) = 16 * (k : Int) := by rw [IntKind.wrap_i64]; omega
    have e3 : IntKind.i64.wrap ((i : Int) + 1) = (i : Int) + 1 := by rw [IntKind.wrap_i64]; omega
    by_cases hkl : 16 * (k : Int) < (i : Int) + 1
    · have f5 := frozen_row HOf.out.lay 5
      have e4 : IntKind.i64.wrap ((k : Int) + 1) = ((k + 1 : Nat) : Int) := by rw [IntKind.wrap_i64]; omega
      have HO2 : Hid (OfS w (wr.setCell ⟨w.heap.size + 2, 5, none⟩ (.int .i64 ((k + 1 : Nat) : Int))) b l i ⟨b, l, i, 1, ((1 + l : Nat) : Int), ((k + 1 : Nat) : Int), 0, ((0 : Nat) : Int), 0⟩) := HOf.out.set 5 _ _ rfl
      have HM1 : Hid (numAt wr (w.heap.size + 2) 5 = (k : Int)) := numAt_eq d5
      have HM2 : Hid (numAt (wr.setCell ⟨w.heap.size + 2, 5, none⟩ (.int .i64 ((k + 1 : Nat) : Int))) (w.heap.size + 2) 5 = ((k + 1 : Nat) : Int)) := numAt_eq (Joins.cell_of_block HO2.out.lay 5)
      have g1 : decide (16 * (k : Int) < (i : Int) + 1) = true := decide_eq_true hkl
      have e5 : (k : Int) + 1 = ((k + 1 : Nat) : Int) := by omega
      clear HOf
      generalize hkk : k + 1 = k' at *
      go_wp2
      exact ⟨⟨k', by omega, HO2.out⟩, by rw [HM1.out, HM2.out]; omega⟩
    · have g1 : decide (16 * (k : Int) < (i : Int) + 1) = false := decide_eq_false hkl
      obtain rfl : k = (i + 16) / 16 := by omega
      obtain ⟨nb, hnb⟩ : ∃ nb, (i + 16) / 16 = nb := ⟨_, rfl⟩
      have HNb : Hid ((i + 16) / 16 = nb) := hnb
      rw [hnb] at d5 e2 g1 HOf hkl h7
      have hnb1 : nb ≤ 5000 := by omega
      clear hk hnb
      have d4 : wr.cell? ⟨w.heap.size + 2, 4, none⟩ = some (.int .i64 ((1 + l : Nat) : Int)) := Joins.cell_of_block HOf.out.lay 4
      have d6 : wr.cell? ⟨w.heap.size + 2, 6, none⟩ = some (.int .i64 0) := Joins.cell_of_block HOf.out.lay 6
      have f6 := frozen_row HOf.out.lay 6
      have e6 : IntKind.i64.wrap (((1 + l : Nat) : Int) + (nb : Int)) = ((1 + l + nb : Nat) : Int) := by rw [IntKind.wrap_i64]; omega
      have e6' : ((1 + l : Nat) : Int) + (nb : Int) = ((1 + l + nb : Nat) : Int) := by omega
      have HO2 : Hid (OfS w (wr.setCell ⟨w.heap.size + 2, 6, none⟩ (.int .i64 ((1 + l + nb : Nat) : Int))) b l i ⟨b, l, i, 1, ((1 + l : Nat) : Int), (nb : Int), ((1 + l + nb : Nat) : Int), ((0 : Nat) : Int), 0⟩) := HOf.out.set 6 _ _ rfl
      clear HOf
      obtain ⟨ba, hba⟩ : ∃ ba, 1 + l + nb = ba := ⟨_, rfl⟩
      obtain ⟨na, hna⟩ : ∃ na, 1 + l = na := ⟨_, rfl⟩
      have HBa : Hid (1 + l + nb = ba) := hba
      have HNa : Hid (1 + l = na) := hna
      rw [hba] at e6 e6' HO2 h7
      rw [hna] at e6 e6' HO2 d4
      clear hba hna
      go_wp2
      generalize wr.setCell ⟨w.heap.size + 2, 6, none⟩ (.int .i64 (ba : Int)) = V2 at *
      clear d2 d5 d4 d6 f6 e6 e6' e2 e3 g1
      go_loopw [61] (fun _ wx => ∃ k : Nat, k ≤ (b + 8191) / 8192 ∧ Hid (OfS w wx b l i ⟨b, l, i, 1, (na : Int), (nb : Int), (ba : Int), (k : Int), 0⟩)) (fun _ wx => (b + 8191) / 8192 - (numAt wx (w.heap.size + 2) 7).toNat)
      case atStart => exact ⟨0, by omega, HO2.out⟩
      case round =>
        clear HO2
        obtain ⟨k, hk, HOf⟩ := hrel
        have d0 : wr.cell? ⟨w.heap.size, 0, none⟩ = some (.int .i64 (b : Int)) := Joins.cell_of_block HOf.out.geo 0
        have d7 : wr.cell? ⟨w.heap.size + 2, 7, none⟩ = some (.int .i64 (k : Int)) := Joins.cell_of_block HOf.out.lay 7
        have e2 : IntKind.i64.wrap (8192 * (k : Int)) = 8192 * (k : Int) := by rw [IntKind.wrap_i64]; omega
        by_cases hkb : 8192 * (k : Int) < (b : Int)
        · have f7 := frozen_row HOf.out.lay 7
          have e4 : IntKind.i64.wrap ((k : Int) + 1) = ((k + 1 : Nat) : Int) := by rw [IntKind.wrap_i64]; omega
          have e5 : (k : Int) + 1 = ((k + 1 : Nat) : Int) := by omega
          have HO2 : Hid (OfS w (wr.setCell ⟨w.heap.size + 2, 7, none⟩ (.int .i64 ((k + 1 : Nat) : Int))) b l i ⟨b, l, i, 1, (na : Int), (nb : Int), (ba : Int), ((k + 1 : Nat) : Int), 0⟩) := HOf.out.set 7 _ _ rfl
          have HM1 : Hid (numAt wr (w.heap.size + 2) 7 = (k : Int)) := numAt_eq d7
          have HM2 : Hid (numAt (wr.setCell ⟨w.heap.size + 2, 7, none⟩ (.int .i64 ((k + 1 : Nat) : Int))) (w.heap.size + 2) 7 = ((k + 1 : Nat) : Int)) := numAt_eq (Joins.cell_of_block HO2.out.lay 7)
          have g1 : decide (8192 * (k : Int) < (b : Int)) = true := decide_eq_true hkb
          clear HOf
          generalize hkk : k + 1 = k' at *
          go_wp2
          exact ⟨⟨k', by omega, HO2.out⟩, by rw [HM1.out, HM2.out]; omega⟩
        · have g1 : decide (8192 * (k : Int) < (b : Int)) = false := decide_eq_false hkb
          obtain rfl : k = (b + 8191) / 8192 := by omega
          obtain ⟨bb, hbb⟩ : ∃ bb, (b + 8191) / 8192 = bb := ⟨_, rfl⟩
          have HBb : Hid ((b + 8191) / 8192 = bb) := hbb
          rw [hbb] at d7 e2 g1 HOf hkb h7
          have hbb1 : bb ≤ 5000 := by omega
          clear hk hbb
          have d6 : wr.cell? ⟨w.heap.size + 2, 6, none⟩ = some (.int .i64 (ba : Int)) := Joins.cell_of_block HOf.out.lay 6
          have d8 : wr.cell? ⟨w.heap.size + 2, 8, none⟩ = some (.int .i64 0) := Joins.cell_of_block HOf.out.lay 8
          have f8 := frozen_row HOf.out.lay 8
          have e6 : IntKind.i64.wrap ((ba : Int) + (bb : Int)) = ((ba + bb : Nat) : Int) := by rw [IntKind.wrap_i64]; omega
          have e6' : (ba : Int) + (bb : Int) = ((ba + bb : Nat) : Int) := by omega
          have HO2 : Hid (OfS w (wr.setCell ⟨w.heap.size + 2, 8, none⟩ (.int .i64 ((ba + bb : Nat) : Int))) b l i ⟨b, l, i, 1, (na : Int), (nb : Int), (ba : Int), (bb : Int), ((ba + bb : Nat) : Int)⟩) := HOf.out.set 8 _ _ rfl
          have HY : Hid (layOf b l i = ⟨b, l, i, 1, (na : Int), (nb : Int), (ba : Int), (bb : Int), ((ba + bb : Nat) : Int)⟩) := by
            show _ = _
            unfold layOf
            rw [HNb.out, HBb.out, HBa.out, HNa.out]
          have hda : ba + bb < b := by have := HBa.out; omega
          clear HOf h7
          generalize ba + bb = da at *
          have g2 : decide ((b : Int) ≤ (da : Int)) = false := decide_eq_false (by omega)
          have g2' : decide (b ≤ da) = false := decide_eq_false (by omega)
          go_upto_region 10 with fail
          generalize wr.setCell ⟨w.heap.size + 2, 8, none⟩ (.int .i64 (da : Int)) = V3 at *
          clear d0 d7 e2 g1 d6 d8 f8 e6 e6'
          have d0 : V3.cell? ⟨w.heap.size, 0, none⟩ = some (.int .i64 (b : Int)) := Joins.cell_of_block HO2.out.geo 0
          have d8 : V3.cell? ⟨w.heap.size + 2, 8, none⟩ = some (.int .i64 (da : Int)) := Joins.cell_of_block HO2.out.lay 8
          have HOl : Hid _ := HO2.out.lay
          have HOr : Hid _ := HO2.out.res
          go_wp2_with (first | (with_reducible refine isLoadR 61 ?_; refine wpList_ldR 61 Tryz.underlying61 rfl rfl (.tmp 4) rfl (w.heap.size + 2) rfl (layRow ⟨b, l, i, 1, (na : Int), (nb : Int), (ba : Int), (bb : Int), (da : Int)⟩) 61 (0, 0) (lay_info _) HOl.out ?_) | (with_reducible refine isStoreR 61 ?_; refine wpList_stR 61 rfl (.tmp 2) (.tmp 78) rfl (w.heap.size + 1) (layRow ⟨b, l, i, 1, (na : Int), (nb : Int), (ba : Int), (bb : Int), (da : Int)⟩) (layRow lay0) 61 (lay_info _) (lay_two _ _) (lay_one _) rfl rfl HOr.out ?_))
          rw [HY.out]
          exact retCT Tryz.underlying61 rfl rfl (w.heap.size + 1) _ 61 (lay_info _) rfl (setRow_heap _ _ _ _ _ _ HOr.out) rfl ⟨rfl, HO2.out.bel.trans ((Fr.setRow V3 (w.heap.size + 1) _).below (fun j q => by omega) HO2.out.bel.size)⟩
end Go.Proofs.YtiejhjngcnkimaaGreatR
/- A layout that fits; its superblock; the document's own words. -/
namespace Go.Proofs.YtiejhjngcnkimaaGreatR
open Go.RowKit Go.Maps
set_option maxRecDepth 20000 in
theorem eqLay (y : Lay) : ∀ w, (Op.equalIn 10000 61 (.agg (layRow y)) (.agg (layRow y))).run Tryz.prog w = .ok true w := by
  intro w
  unfold layRow
  simp [go_sem]
set_option maxRecDepth 20000 in
set_option maxHeartbeats 1000000 in
theorem fits03_ok {b l i : Nat} (h : GeoOk b l i) (w : World) :
    Calls Tryz.prog 135 #[.agg (layRow (layOf b l i))] w fun e w' => e = .returned (.bool true) ∧ Below w.heap.size w w' := by
  have z := zeroLay
  have hX := heap_alloc_new w (.cells (layRow (layOf b l i)) 61)
  have HB : Hid _ := below_new w (.cells (layRow (layOf b l i)) 61)
  have hof := of03_ok h (w.alloc (.cells (layRow (layOf b l i)) 61))
  have HE : Hid _ := eqLay (layOf b l i)
  have c0 : (w.alloc (.cells (layRow (layOf b l i)) 61)).cell? ⟨w.heap.size, 0, none⟩ = some (.int .i64 (b : Int)) := Joins.cell_of_block hX 0
  have c1 : (w.alloc (.cells (layRow (layOf b l i)) 61)).cell? ⟨w.heap.size, 1, none⟩ = some (.int .i64 (l : Int)) := Joins.cell_of_block hX 1
  have c2 : (w.alloc (.cells (layRow (layOf b l i)) 61)).cell? ⟨w.heap.size, 2, none⟩ = some (.int .i64 (i : Int)) := Joins.cell_of_block hX 2
  have HX : Hid _ := hX
  clear hX h
  generalize layOf b l i = y at *
  unfold geoRow at hof
  go_enter Tryz.func135, Tryz.ntmps135
  go_upto_region 1 with fail
  generalize w.alloc (.cells (layRow y) 61) = V at *
  go_wp2_with (first | (go_at_call 39; fail))
  refine hof.mono ?_
  rintro e W1 ⟨rfl, hb⟩
  have HX1 : Hid _ := heap_kept (heap_kept HX.out hb) (below_new W1 (.cells (layRow y) 61))
  have HX2 : Hid _ := heap_alloc_new W1 (.cells (layRow y) 61)
  have HB1 : Hid (Below w.heap.size w (W1.alloc (.cells (layRow y) 61))) := below_next (below_next HB.out hb) (below_new _ _)
  clear hof hb HX HB c0 c1 c2
  go_upto_region 2 with (first | (with_reducible refine isStoreR 61 ?_; refine wpList_stNew 61 rfl (.tmp 3) (.tmp 9) rfl W1.heap.size (layRow y) (layRow lay0) 61 (lay_info _) (lay_two _ _) (lay_one _) rfl rfl rfl ?_))
  generalize W1.alloc (.cells (layRow y) 61) = X at *
  generalize W1.heap.size = gx at *
  have heq := HE.out
  go_wp2_with (first | (with_reducible refine isLoadR 61 ?_; refine wpList_ldR 61 Tryz.underlying61 rfl rfl (.tmp 3) rfl gx rfl (layRow y) 61 (0, 0) (lay_info _) HX2.out ?_) | (with_reducible refine isLoadR 61 ?_; refine wpList_ldR 61 Tryz.underlying61 rfl rfl (.tmp 1) rfl w.heap.size rfl (layRow y) 61 (0, 0) (lay_info _) HX1.out ?_))
  go_ret
  exact ⟨rfl, HB1.out⟩
end Go.Proofs.YtiejhjngcnkimaaGreatR
