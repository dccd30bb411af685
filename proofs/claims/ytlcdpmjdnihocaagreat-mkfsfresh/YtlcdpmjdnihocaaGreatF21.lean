/- Several texts joined, each with its own remark; no condition. -/
import Derived.Test.YtlcdpmjdnihocaaGreatF20
import Derived.Test.YtlcdpmjdnihocaaGreatF16
import Derived.Test.YtlcdpmjdnihocaaGreatF18
import Derived.Test.YtlcdpmjdnihocaaGreatF19
/- How many links there are, where they are counted right. -/
namespace Go.Proofs.YtlcdpmjdnihocaaGreat
open Go.RowKit Go.Maps
/-- How many directories a directory names. -/
def subs (L : List Fl) (nm : List (Int × Int)) (i : Int) : Nat := (nm.filter fun s => s.1 == i && kindP L s.2 == 2).length
theorem subs_snoc (L : List Fl) (nm : List (Int × Int)) (i : Int) (s : Int × Int) : subs L (nm ++ [s]) i = subs L nm i + if (s.1 == i && kindP L s.2 == 2) then 1 else 0 := by
  unfold subs
  rw [List.filter_append, List.length_append]
  cases h : (s.1 == i && kindP L s.2 == 2) <;> simp [h]
theorem subs_le (L : List Fl) (nm : List (Int × Int)) (i : Int) : subs L nm i ≤ nm.length := List.length_filter_le _ _
def LinkOk (L : List Fl) (nm : List (Int × Int)) (x : Fl) : Prop := x.lk = if x.k = 2 ∧ ¬ x.lk = 0 then 2 + (subs L nm x.inum : Int) else (parP nm x.inum).2
set_option maxRecDepth 20000 in
set_option maxHeartbeats 8000000 in
theorem links29_ok {w : World} {g : Nat} {p pn : Option Addr} {L : List Fl} {nm : List (Int × Int)} (c cn : Nat) (hL : FlsAt w p L) (hN : LieG pc2 2 w pn nm) (hnl : nm.length ≤ 1000000) (hlb : ∀ x ∈ L, 0 ≤ x.lk ∧ x.lk < 65536) (hok : ∀ x ∈ L, LinkOk L nm x) :
    Calls Tryz.prog 86 #[.pointer (some ⟨g, 0, none⟩), .slice p L.length c, .slice pn nm.length cn] w fun e w' => e = .returned (.slice none 0 0) ∧ Below w.heap.size w w' := by
  have z := zero230
  have z1 := zeroFl
  have HX : Hid _ := heap_alloc_new w (.cells #[.int .u8 15, .slice none 0 0] 181)
  have HB : Hid _ := below_new w (.cells #[.int .u8 15, .slice none 0 0] 181)
  have HL : Hid _ := hL
  have HN : Hid (LieG pc2 2 w pn nm) := hN
  have HO : Hid _ := hok
  have HS : Hid _ := hlb
  have hlen := hL.len
  clear hL hN hok hlb
  generalize hLM : L.length = M at *
  generalize hNN : nm.length = N at *
  go_enter Tryz.func86, Tryz.ntmps86
  go_wp2
  generalize w.alloc (.cells #[.int .u8 15, .slice none 0 0] 181) = V at *
  go_loopw [8, 9, 10, 11, 12] (fun s8 _ _ _ _ wx => ∃ i : Nat, i ≤ M ∧ s8 = .int .i64 i ∧ Hid (Below V.heap.size V wx)) (fun s8 _ _ _ _ _ => M - (intOf s8).toNat)
  case atStart => exact ⟨0, by omega, rfl, Below.refl _ _⟩
  case round =>
    obtain ⟨i, hi, rfl, HW⟩ := hrel
    have hbw := below_next HB.out HW.out
    by_cases hi2 : (i : Int) < (M : Int)
    · have hLw := HL.out.later hbw
      obtain ⟨gf, x, rfl, _, hxL, hcx⟩ := hLw.at (i := i) (by omega)
      have hil : i < M := by omega
      have hs := HS.out x hxL
      have hX : (wr.alloc (.cells (flCells x).toArray 114)).heap[wr.heap.size]? = some (.cells (flCells x).toArray 114) := heap_alloc_new _ _
      have hbX := below_new wr (.cells (flCells x).toArray 114)
      have HWX : Hid (Below V.heap.size V (wr.alloc (.cells (flCells x).toArray 114))) := below_next HW.out hbX
      have HOx : Hid _ := HO.out x hxL
      have HI : Hid _ := fl_info x
      have HI2 : Hid _ := fl_all x
      have hpa := parent29_any cn ((HN.out.later hbw).later hbX) (by omega) (x.inum : Int)
      rw [hNN] at hpa
      clear hLw hbw hbX hxL
      go_upto_region 6 with (first | (with_reducible refine isLoadR 114 ?_; refine wpList_ldF rfl (.tmp 23) rfl gf (i * 18) x rfl hcx ?_) | (with_reducible refine isStoreR 114 ?_; refine wpList_stNew 114 rfl (.tmp 9) (.tmp 24) rfl wr.heap.size (flCells x).toArray (flCells fl0).toArray 114 HI.out (fl_two fl0 x) HI2.out rfl rfl rfl ?_))
      clear hcx HW
      generalize wr.alloc (.cells (flCells x).toArray 114) = X at *
      generalize wr.heap.size = gx at *
      have c0 : X.cell? ⟨gx, 0, none⟩ = some (.int .i64 (x.inum : Int)) := Joins.cell_of_block hX 0
      have c1 : X.cell? ⟨gx, 1, none⟩ = some (.int .u16 x.k) := Joins.cell_of_block hX 1
      have c2 : X.cell? ⟨gx, 2, none⟩ = some (.int .u16 x.lk) := Joins.cell_of_block hX 2
      go_wp2_with (first | (go_at_call 129; fail))
      refine hpa.mono ?_
      rintro r W2 ⟨rfl, rfl⟩
      have ewl : IntKind.i64.wrap x.lk = x.lk := by rw [IntKind.wrap_i64]; omega
      by_cases hd : x.k = 2 ∧ ¬ x.lk = 0
      · have g2 : (x.lk == 0) = false := beq_eq_false_iff_ne.2 hd.2
        have g2' : (x.lk != 0) = true := by rw [bne, g2]; rfl
        have HQ : Hid (x.lk = 2 + (subs L nm x.inum : Int)) := by
          have := HOx.out
          unfold LinkOk at this
          rwa [if_pos hd] at this
        rw [hd.1] at c1
        clear HOx hpa hd
        go_wp2
        go_loopw [11, 12] (fun s11 s12 wx => ∃ k : Nat, k ≤ N ∧ s12 = .int .i64 k ∧ s11 = .int .i64 (2 + (subs L (nm.take k) x.inum : Int)) ∧ Hid (Below W2.heap.size W2 wx)) (fun _ s12 _ => N - (intOf s12).toNat)
        case atStart => exact ⟨0, by omega, rfl, by simp [subs], Below.refl _ _⟩
        case round =>
          obtain ⟨k, hk, rfl, rfl, HK⟩ := hrel
          have hXk := heap_kept hX HK.out
          have b0 : wr.cell? ⟨gx, 0, none⟩ = some (.int .i64 (x.inum : Int)) := Joins.cell_of_block hXk 0
          have b2 : wr.cell? ⟨gx, 2, none⟩ = some (.int .u16 x.lk) := Joins.cell_of_block hXk 2
          have hbk := below_next (below_next HB.out HWX.out) HK.out
          by_cases hk2 : (k : Int) < (N : Int)
          · obtain ⟨gn, rfl, hgn, hcn⟩ := (HN.out.later hbk) (by omega)
            have hsk : nm[k]? = some nm[k] := List.getElem?_eq_getElem (by omega)
            have d0 : wr.cell? ⟨gn, k * 2, none⟩ = some (.int .i64 (nm[k]).1) := hcn k _ hsk 0 _ rfl
            have d1 : wr.cell? ⟨gn, k * 2 + 1, none⟩ = some (.int .i64 (nm[k]).2) := hcn k _ hsk 1 _ rfl
            have HSn : Hid (subs L (nm.take (k + 1)) x.inum = subs L (nm.take k) x.inum + if ((nm[k]).1 == (x.inum : Int) && kindP L (nm[k]).2 == 2) then 1 else 0) := by show _ = _; rw [take_snoc hsk, subs_snoc]
            have hkd : ∀ q, Calls Tryz.prog 130 #[.slice (some ⟨gf, 0, none⟩) M c, .int .i64 (nm[k]).2] (wr.drewN q) fun e w' => e = .returned (.int .u16 (kindP L (nm[k]).2)) ∧ w' = wr.drewN q := fun q => by rw [← hLM]; exact kind29_any c ((HL.out.later hbk).later (belowN (Below.refl _ _) q)) (nm[k]).2
            have hsl := subs_le L (nm.take k) x.inum
            rw [List.length_take] at hsl
            have hkl : k < N := by omega
            have HK2 : Hid (∀ q, Below W2.heap.size W2 (wr.drewN q)) := fun q => belowN HK.out q
            generalize (nm[k]).1 = s1 at *
            generalize (nm[k]).2 = s2 at *
            generalize kindP L s2 = kk at *
            obtain ⟨sb, hsb⟩ : ∃ sb, subs L (nm.take k) (x.inum : Int) = sb := ⟨_, rfl⟩
            rw [hsb] at HSn hsl ⊢
            clear hcn hsk hbk hXk HK hsb
            by_cases e1 : s1 = (x.inum : Int)
            · have g3 : (s1 == (x.inum : Int)) = true := by simp [e1]
              by_cases e2 : kk = 2
              · have HS3 : Hid (subs L (nm.take (k + 1)) x.inum = sb + 1) := by
                  have := HSn.out; rw [g3, e2] at this; exact (by simpa using this : _ = _)
                subst e2
                clear HSn e1
                generalize (x.inum : Int) = xi at *
                go_upto_region 12 with fail
                go_quiet ((go_at_call 130; exact (hkd _).mono fun _ _ h => ⟨h.1, ⟨_, h.2⟩⟩))
                have ew3 : IntKind.i64.wrap (2 + (sb : Int) + 1) = 2 + ((sb + 1 : Nat) : Int) := by rw [IntKind.wrap_i64]; omega
                go_wp2
                exact ⟨⟨k + 1, by omega, by go_num, by rw [HS3.out]; go_num, HK2.out _⟩, by simp [intOf]; omega⟩
              · have g4 : (kk == 2) = false := beq_eq_false_iff_ne.2 e2
                have HS3 : Hid (subs L (nm.take (k + 1)) x.inum = sb) := by
                  have := HSn.out; rw [g3, g4] at this; exact (by simpa using this : _ = _)
                clear HSn e1 e2
                generalize (x.inum : Int) = xi at *
                go_upto_region 12 with fail
                go_quiet ((go_at_call 130; exact (hkd _).mono fun _ _ h => ⟨h.1, ⟨_, h.2⟩⟩))
                go_wp2
                exact ⟨⟨k + 1, by omega, by go_num, by rw [HS3.out], HK2.out _⟩, by simp [intOf]; omega⟩
            · have g3 : (s1 == (x.inum : Int)) = false := beq_eq_false_iff_ne.2 e1
              have HS3 : Hid (subs L (nm.take (k + 1)) x.inum = sb) := by
                have := HSn.out; rw [g3] at this; exact (by simpa using this : _ = _)
              clear HSn e1 hkd
              generalize (x.inum : Int) = xi at *
              go_upto_region 12 with fail
              go_quiet (fail)
              go_wp2
              exact ⟨⟨k + 1, by omega, by go_num, by rw [HS3.out], HK2.out _⟩, by simp [intOf]; omega⟩
          · obtain rfl : k = N := by omega
            have HF : Hid (Below V.heap.size V wr) := below_next HWX.out HK.out
            rw [show nm.take k = nm by rw [← hNN, List.take_length]]
            have hq := HQ.out
            have HQ2 : Hid (2 + (subs L nm x.inum : Int) = x.lk) := hq.symm
            rw [HQ2.out]
            clear hq HQ HQ2 HK hbk hXk
            go_wp2
            exact ⟨⟨i + 1, by omega, by go_num, HF.out⟩, by simp [intOf]; omega⟩
      · have HQ : Hid ((parP nm (x.inum : Int)).2 = x.lk) := by
          have := HOx.out
          unfold LinkOk at this
          rw [if_neg hd] at this
          exact this.symm
        rw [HQ.out]
        generalize (parP nm (x.inum : Int)).1 = pd at *
        clear HOx hpa HQ
        by_cases hk : x.k = 2
        · have hl0 : x.lk = 0 := by
            by_cases q : x.lk = 0
            · exact q
            · exact absurd ⟨hk, q⟩ hd
          rw [hk] at c1
          rw [hl0] at c2 ⊢
          clear hd hk hl0 hs ewl hX
          go_wp2
          exact ⟨⟨i + 1, by omega, by go_num, HWX.out⟩, by simp [intOf]; omega⟩
        · have g1 : (x.k == 2) = false := beq_eq_false_iff_ne.2 hk
          clear hd hk hX
          go_wp2
          exact ⟨⟨i + 1, by omega, by go_num, HWX.out⟩, by simp [intOf]; omega⟩
    · have hx := heap_kept HX.out HW.out
      have c1 := Joins.cell_of_block hx 1
      have HR : Hid _ := hbw
      clear hx hbw HW HX HL HO HS HN
      go_wp2
      go_ret
      exact ⟨rfl, HR.out⟩
end Go.Proofs.YtlcdpmjdnihocaaGreat
/- A directory as the state has it. -/
namespace Go.Proofs.YtlcdpmjdnihocaaGreat
open Go.RowKit Go.Maps
def itRow (i k lk s b : Int) (dv sv : Value) : Array Value := #[.int .i64 i, .int .u16 k, .int .i64 lk, .int .i64 s, .int .i64 b, dv, sv]
theorem sizeIt : (Tryz.prog.info? 66).map (·.size) = some 7 := by kernel_rfl
theorem zeroIt : ∀ w, (zeroValue 66).run Tryz.prog w = .ok (.agg (itRow 0 0 0 0 0 (.slice none 0 0) (.slice none 0 0))) w := (zero_of_info (show (Tryz.prog.info? 66).map (fun i => (i.zero, i.size)) = some (some (.agg (itRow 0 0 0 0 0 (.slice none 0 0) (.slice none 0 0))), 7) by kernel_rfl)).1
theorem it_info (i k lk s b : Int) (dv sv : Value) : (Tryz.prog.info? 66).map (·.size) = some (itRow i k lk s b dv sv).size := sizeIt
theorem it_two (i k lk s b : Int) (dv sv : Value) (i' k' lk' s' b' : Int) (dv' sv' : Value) : (itRow i k lk s b dv sv).size = (itRow i' k' lk' s' b' dv' sv').size := rfl
theorem it_one (i k lk s b : Int) (p q : Option Addr) (m n c d : Nat) : (itRow i k lk s b (.slice p m c) (.slice q n d)).all (·.oneCell') = true := by simp [itRow, Value.oneCell']
theorem wpList_buildIt {ops : Array Oper} {rest : List Oper} {o : Oper} {a : Act} {w : World} {Q : Exit → Act → World → Prop} (hw : Region.wanted o (yielded ops a.tmps) = true) (x0 x1 x2 x3 x4 : Operand) (ho : o.op = .build 66 #[(0, x0), (1, x1), (2, x2), (3, x3), (4, x4)]) (i k lk s b : Int)
    (h0 : a.eval x0 = .int .i64 i) (h1 : a.eval x1 = .int .u16 k) (h2 : a.eval x2 = .int .i64 lk) (h3 : a.eval x3 = .int .i64 s) (h4 : a.eval x4 = .int .i64 b)
    (h : wpList Tryz.prog ops Q rest (a.put o.dst (.agg (itRow i k lk s b (.slice none 0 0) (.slice none 0 0)))) w) : wpList Tryz.prog ops Q (o :: rest) a w := by
  unfold wpList
  rw [if_pos hw]
  refine .inl ?_
  have z := zeroIt w
  have e : (execOp a.eval o).run Tryz.prog w = .ok (.value (.agg (itRow i k lk s b (.slice none 0 0) (.slice none 0 0)))) w := by
    unfold itRow at *
    generalize a.eval = E at *
    unfold execOp
    simp only [ho]
    simp [go_sem, h0, h1, h2, h3, h4, z]
  unfold Oper.wp
  rw [e]
  exact h
set_option maxRecDepth 20000 in
set_option maxHeartbeats 4000000 in
theorem item29_dir {w : World} {g : Nat} {n : Int} {l : List Cel} {y : Lay} (ha : Aud w g n l y) (x : Fl) (h : FlOk w x) (hk : x.k = 2) (hlk : 0 ≤ x.lk ∧ x.lk < 65536) (es : List (Int × ByteArray)) (hm : x.s / 16 = es.length) (hes : es.length ≤ 100000) (hok : ∀ k e, es[k]? = some e → EntB (sloP l x.sp k) e) :
    Calls Tryz.prog 53 #[.pointer (some ⟨g, 0, none⟩), .agg (flCells x).toArray] w fun r w' => ∃ v, r = .returned (.agg (itRow x.inum 2 x.lk x.s x.b (.slice none 0 0) v)) ∧ SlSA w w' v es := by
  have z := zeroIt
  obtain ⟨A, hA⟩ : ∃ A, A = w.alloc (.cells (flCells x).toArray 114) := ⟨_, rfl⟩
  have hbA := below_new w (.cells (flCells x).toArray 114)
  rw [← hA] at hbA
  have hxA : A.heap[w.heap.size]? = some (.cells (flCells x).toArray 114) := by rw [hA]; exact heap_alloc_new _ _
  have hsA : A.heap.size = w.heap.size + 1 := by rw [hA]; simp
  obtain ⟨B, hB⟩ : ∃ B, B = A.alloc (.cells (itRow 0 0 0 0 0 (.slice none 0 0) (.slice none 0 0)) 66) := ⟨_, rfl⟩
  have hbB := below_new A (.cells (itRow 0 0 0 0 0 (.slice none 0 0) (.slice none 0 0)) 66)
  rw [← hB] at hbB
  have hrB : B.heap[w.heap.size + 1]? = some (.cells (itRow 0 0 0 0 0 (.slice none 0 0) (.slice none 0 0)) 66) := by rw [hB, ← hsA]; exact heap_alloc_new _ _
  have hsB : B.heap.size = w.heap.size + 2 := by rw [hB]; simp; omega
  have hxB := heap_kept hxA hbB
  obtain ⟨C, hC⟩ : ∃ C, C = B.alloc (.cells (itRow x.inum 2 x.lk x.s x.b (.slice none 0 0) (.slice none 0 0)) 66) := ⟨_, rfl⟩
  have hbC := below_new B (.cells (itRow x.inum 2 x.lk x.s x.b (.slice none 0 0) (.slice none 0 0)) 66)
  rw [← hC] at hbC
  have hiC : C.heap[w.heap.size + 2]? = some (.cells (itRow x.inum 2 x.lk x.s x.b (.slice none 0 0) (.slice none 0 0)) 66) := by rw [hC, ← hsB]; exact heap_alloc_new _ _
  have hbwC := below_next hbA (below_next hbB hbC)
  have hsl := slots29_ok (ha.later hbwC) x ⟨h.lie.later hbwC, h.len, h.s, h.b⟩ es hm hes hok
  have c0 : B.cell? ⟨w.heap.size, 0, none⟩ = some (.int .i64 (x.inum : Int)) := Joins.cell_of_block hxB 0
  have c1 : B.cell? ⟨w.heap.size, 1, none⟩ = some (.int .u16 x.k) := Joins.cell_of_block hxB 1
  have c2 : B.cell? ⟨w.heap.size, 2, none⟩ = some (.int .u16 x.lk) := Joins.cell_of_block hxB 2
  have c3 : B.cell? ⟨w.heap.size, 3, none⟩ = some (.int .u32 x.s) := Joins.cell_of_block hxB 3
  have c4 : B.cell? ⟨w.heap.size, 4, none⟩ = some (.int .u32 x.b) := Joins.cell_of_block hxB 4
  rw [hk] at c1
  have hs := h.s
  have hb := h.b
  have e1 : IntKind.i64.wrap x.lk = x.lk := by rw [IntKind.wrap_i64]; omega
  have e2 : IntKind.i64.wrap x.s = x.s := by rw [IntKind.wrap_i64]; omega
  have e3 : IntKind.i64.wrap x.b = x.b := by rw [IntKind.wrap_i64]; omega
  have HxC : Hid _ := heap_kept hxB hbC
  have HrC : Hid _ := heap_kept hrB hbC
  have HiC : Hid _ := hiC
  have HbC : Hid (Below w.heap.size w C) := hbwC
  have HI : Hid _ := fl_info x
  have HA : Hid (A = _) := hA
  have HB : Hid (B = _) := hB
  have HC : Hid (C = _) := hC
  have HsB : Hid (B.heap.size = _) := hsB
  clear ha h hm hok hxA hxB hrB hbB hbA hbC hbwC hs hb hA hB hC hsA hsB hiC
  go_enter Tryz.func53, Tryz.ntmps53
  go_upto_region 1 with fail
  rw [← HA.out, ← HB.out]
  go_upto_region 2 with (first | (with_reducible refine isBuildR 66 ?_; refine wpList_buildIt rfl (.tmp 8) (.tmp 11) (.tmp 15) (.tmp 19) (.tmp 23) rfl x.inum 2 x.lk x.s x.b rfl rfl rfl rfl rfl ?_) | (with_reducible refine isStoreR 66 ?_; refine wpList_stNew 66 rfl (.tmp 5) (.tmp 24) rfl B.heap.size (itRow x.inum 2 x.lk x.s x.b (.slice none 0 0) (.slice none 0 0)) (itRow 0 0 0 0 0 (.slice none 0 0) (.slice none 0 0)) 66 (it_info _ _ _ _ _ _ _) (it_two _ _ _ _ _ _ _ _ _ _ _ _ _ _) (it_one _ _ _ _ _ _ _ _ _ _ _) rfl rfl rfl ?_))
  rw [← HC.out, HsB.out]
  clear c0 c1 c2 c3 c4 HA HB HC HsB e1 e2 e3
  have d1 : C.cell? ⟨w.heap.size + 2, 1, none⟩ = some (.int .u16 2) := Joins.cell_of_block HiC.out 1
  go_wp2_with (first | (with_reducible refine isLoadR 114 ?_; refine wpList_ldR 114 Tryz.underlying114 rfl rfl (.tmp 3) rfl w.heap.size rfl (flCells x).toArray 114 (0, 0) HI.out HxC.out ?_) | (go_at_call 89; fail))
  refine hsl.mono ?_
  rintro r W1 ⟨v, rfl, hs1⟩
  have hi1 := heap_kept HiC.out hs1.bel
  have hr1 := heap_kept HrC.out hs1.bel
  obtain ⟨pe, ce, rfl, _⟩ := OwnG.lie enE_len hs1.own
  have d6 : W1.cell? ⟨w.heap.size + 2, 6, none⟩ = some (.slice none 0 0) := Joins.cell_of_block hi1 6
  have f6 := frozen_row hi1 6
  have hF := Fr.setCell W1 (w.heap.size + 2) 6 (.slice pe es.length ce)
  have hi2 : (W1.setCell ⟨w.heap.size + 2, 6, none⟩ (.slice pe es.length ce)).heap[w.heap.size + 2]? = some (.cells (itRow x.inum 2 x.lk x.s x.b (.slice none 0 0) (.slice pe es.length ce)) 66) := by
    rw [heap_setCell_same _ _ _ _ _ _ hi1]; rfl
  have hr2 := (hF.block _ (Array.getElem?_eq_some_iff.1 hr1).1 (by omega)).trans hr1
  have HSS : Hid (SlSA w ((W1.setCell ⟨w.heap.size + 2, 6, none⟩ (.slice pe es.length ce)).setRow (w.heap.size + 1) (itRow x.inum 2 x.lk x.s x.b (.slice none 0 0) (.slice pe es.length ce))) (.slice pe es.length ce) es) := by
    have hsz := hs1.bel.size
    have hszC := HbC.out.size
    have hF2 := Fr.setRow (W1.setCell ⟨w.heap.size + 2, 6, none⟩ (.slice pe es.length ce)) (w.heap.size + 1) (itRow x.inum 2 x.lk x.s x.b (.slice none 0 0) (.slice pe es.length ce))
    have hC2 := (Array.getElem?_eq_some_iff.1 HiC.out).1
    refine ⟨own_frame (own_frame (hs1.own.mono hszC) hF fun b hb hT => ?_) hF2 fun b hb hT => ?_, ?_⟩
    · have := World.ownsRow.lt hs1.own b hb; omega
    · have := World.ownsRow.lt hs1.own b hb; omega
    · exact ((below_next HbC.out hs1.bel).trans (hF.below (fun j q => by omega) (by omega))).trans (hF2.below (fun j q => by omega) (by have := hF.size; omega))
  clear hs1 hsl hF d1
  generalize es.length = M at *
  go_wp2_with (first | (with_reducible refine isLoadR 66 ?_; refine wpList_ldR 66 Tryz.underlying66 rfl rfl (.tmp 5) rfl (w.heap.size + 2) rfl (itRow x.inum 2 x.lk x.s x.b (.slice none 0 0) (.slice pe M ce)) 66 (0, 0) (it_info _ _ _ _ _ _ _) hi2 ?_) | (with_reducible refine isStoreR 66 ?_; refine wpList_stR 66 rfl (.tmp 4) (.tmp 35) rfl (w.heap.size + 1) (itRow x.inum 2 x.lk x.s x.b (.slice none 0 0) (.slice pe M ce)) (itRow 0 0 0 0 0 (.slice none 0 0) (.slice none 0 0)) 66 (it_info _ _ _ _ _ _ _) (it_two _ _ _ _ _ _ _ _ _ _ _ _ _ _) (it_one _ _ _ _ _ _ _ _ _ _ _) rfl rfl hr2 ?_))
  exact retR Tryz.underlying66 rfl rfl (w.heap.size + 1) _ 66 (it_info _ _ _ _ _ _ _) rfl (setRow_heap _ _ _ _ _ _ hr2) rfl ⟨_, rfl, HSS.out⟩
end Go.Proofs.YtlcdpmjdnihocaaGreat
/- All that may be wrong with a disk, where nothing is. -/
namespace Go.Proofs.YtlcdpmjdnihocaaGreat
open Go.RowKit Go.Maps
structure FineL (y : Lay) (l : List Cel) (nI nB bB : Nat) (ent : Fl → List (Int × ByteArray)) (L : List Fl) : Prop where
  len2 : ∀ x ∈ L, x.sp.length ≤ 1000000
  sb : ∀ x ∈ L, (0 ≤ x.s ∧ x.s ≤ 4294967295) ∧ (0 ≤ x.b ∧ x.b ≤ 4294967295)
  lk : ∀ x ∈ L, 0 ≤ x.lk ∧ x.lk < 65536
  ptr : ∀ x ∈ L, ∀ s ∈ x.sp, dataB y s.2 = true
  blk : ∀ x ∈ L, ∀ s ∈ x.sp, 0 ≤ s.2 ∧ s.2 < nB
  tot : (allS L).length ≤ 100000000
  one : ∀ b, b < nB → cntS (allS L) b ≤ 1
  fine : ∀ x ∈ L, FineP l x 7 ∧ FineP l x 8 ∧ FineP l x 9 ∧ FineP l x 10 ∧ FineP l x 12
  bits : ∀ k i, k < bB → i < 8192 → hasP (atL l (y.bitsAt + (k : Int))) i = wantB y (allS L) nB (8192 * k + i)
  dirs : ∀ x ∈ L, x.k = 2 → DirAll l L ent x
  names : (namesP ent L).length ≤ 1000000
  nb : ∀ s ∈ namesP ent L, (0 ≤ s.1 ∧ s.1 ≤ nI) ∧ (0 ≤ s.2 ∧ s.2 ≤ nI)
  tree : ∀ x ∈ L, x.k = 2 → ¬ x.lk = 0 → TreeOk (namesP ent L) (ent x) nI x
  link : ∀ x ∈ L, LinkOk L (namesP ent L) x
structure FineA (y : Lay) (l : List Cel) (nI nN nB bB : Nat) (ent : Fl → List (Int × ByteArray)) : Prop where
  nodes : NodesOk y l nI nN
  i1 : 1 ≤ nI
  b : y.b = nB
  b1 : nB ≤ 100000000
  bi : y.bitsBlocks = bB
  bi1 : bB ≤ 1000000
  ba : 0 ≤ y.bitsAt ∧ y.bitsAt ≤ 1000000000
  all : ∀ L : List Fl, L.map Fl.core = filesK y l nI → FineL y l nI nB bB ent L
set_option maxRecDepth 20000 in
set_option maxHeartbeats 8000000 in
theorem wrong29_all {w : World} {g : Nat} {n : Int} {l : List Cel} {y : Lay} (ha : Aud w g n l y) {nI nN nB bB : Nat} {ent : Fl → List (Int × ByteArray)} (hf : FineA y l nI nN nB bB ent) :
    Calls Tryz.prog 51 #[.pointer (some ⟨g, 0, none⟩)] w fun e w' => e = .returned (.slice none 0 0) ∧ Below w.heap.size w w' := by
  have HA : Hid _ := ha
  have HF : Hid _ := hf
  have hc0 := nodes29_ok ha hf.nodes
  clear ha hf
  go_enter Tryz.func51, Tryz.ntmps51
  go_wp2_with (first | (go_at_call 78; fail))
  refine hc0.mono ?_
  rintro e W0 ⟨rfl, hb⟩
  have HB0 : Hid (Below w.heap.size w W0) := hb
  have hc := files29_any (HA.out.later hb) HF.out.nodes.i HF.out.nodes.i1 HF.out.nodes.at'
  clear hb hc0
  go_wp2_with (first | (go_at_call 52; fail))
  refine hc.mono ?_
  rintro e W1 ⟨v, rfl, ⟨L, hfa, hco⟩, hb⟩
  have hfl := HF.out.all L hco
  have hll : L.length ≤ 1000000 := by
    have h1 : L.length = (filesK y l nI).length := by rw [← hco, List.length_map]
    have h2 := filesK_len y l nI
    have h3 := HF.out.nodes.i1
    omega
  obtain ⟨p, c, rfl, hls⟩ := hfa.fls hll hfl.len2
  have HB1 : Hid (Below w.heap.size w W1) := below_next HB0.out hb
  have HL : Hid (FlsAt W1 p L) := hls
  have HFl : Hid _ := hfl
  have HA1 : Hid (Aud W1 g n l y) := HA.out.later HB1.out
  clear hb hc hfl hls hfa hco HB0 HA
  have HW1 : Hid (Below W1.heap.size W1 W1) := Below.refl _ _
  obtain ⟨N, hN⟩ : ∃ N, L.length = N := ⟨_, rfl⟩
  have HN : Hid (L.length = N) := hN
  rw [hN]
  clear hN hll
  have hc := pointers29_ok HA1.out c HL.out HFl.out.ptr
  rw [HN.out] at hc
  go_wp2_with (first | (go_at_call 79; fail))
  refine hc.mono ?_
  rintro e W2 ⟨rfl, hb⟩
  have HW2 : Hid (Below W1.heap.size W1 W2) := below_next HW1.out hb
  clear hc hb
  have hc := twice29_ok (HA1.out.later HW2.out) c (HL.out.later HW2.out) HF.out.b HF.out.b1 HFl.out.blk HFl.out.tot HFl.out.one
  rw [HN.out] at hc
  go_wp2_with (first | (go_at_call 80; fail))
  refine hc.mono ?_
  rintro e W3 ⟨rfl, hb⟩
  have HW3 : Hid (Below W1.heap.size W1 W3) := below_next HW2.out hb
  clear hc hb HW2
  have HWk : Hid (Below W1.heap.size W1 (W3.alloc (.cells #[.int .u8 7, .int .u8 8, .int .u8 9, .int .u8 10] 130))) := below_next HW3.out (below_new _ _)
  have HK : Hid ((W3.alloc (.cells #[.int .u8 7, .int .u8 8, .int .u8 9, .int .u8 10] 130)).heap[W3.heap.size]? = some (.cells #[.int .u8 7, .int .u8 8, .int .u8 9, .int .u8 10] 130)) := heap_alloc_new _ _
  clear HW3
  have zk := (zero_of_info (show (Tryz.prog.info? 130).map (fun i => (i.zero, i.size)) = some (some (.int .u8 0), 1) by kernel_rfl)).1
  go_wp2
  generalize W3.alloc (.cells #[.int .u8 7, .int .u8 8, .int .u8 9, .int .u8 10] 130) = V at *
  generalize W3.heap.size = gk at *
  go_loopw [3, 6] (fun _ s6 wx => ∃ i : Nat, i ≤ 4 ∧ s6 = .int .i64 i ∧ Hid (Below V.heap.size V wx)) (fun _ s6 _ => 4 - (intOf s6).toNat)
  case atStart => exact ⟨0, by omega, rfl, Below.refl _ _⟩
  case round =>
    obtain ⟨i, hi, rfl, HW⟩ := hrel
    have hbw := below_next HWk.out HW.out
    have hkr := heap_kept HK.out HW.out
    by_cases hi2 : (i : Int) < 4
    · obtain ⟨kd, hkd, hck⟩ : ∃ kd : Int, (∀ x ∈ L, FineP l x kd) ∧ wr.cell? ⟨gk, i, none⟩ = some (.int .u8 kd) := by
        have hh := HFl.out.fine
        rcases (show i = 0 ∨ i = 1 ∨ i = 2 ∨ i = 3 by omega) with rfl | rfl | rfl | rfl
        · exact ⟨7, fun x hx => (hh x hx).1, Joins.cell_of_block hkr 0⟩
        · exact ⟨8, fun x hx => (hh x hx).2.1, Joins.cell_of_block hkr 1⟩
        · exact ⟨9, fun x hx => (hh x hx).2.2.1, Joins.cell_of_block hkr 2⟩
        · exact ⟨10, fun x hx => (hh x hx).2.2.2.1, Joins.cell_of_block hkr 3⟩
      have hc := filesF29_ok (HA1.out.later hbw) c (HL.out.later hbw) kd HFl.out.sb hkd
      rw [HN.out] at hc
      have hi4 : i < 4 := by omega
      clear hkd hbw hkr
      go_wp2_with (first | (go_at_call 81; fail))
      refine hc.mono ?_
      rintro e W ⟨rfl, hb⟩
      have HW2 : Hid (Below V.heap.size V W) := below_next HW.out hb
      clear hc hb HW hck
      go_wp2
      exact ⟨⟨i + 1, by omega, by go_num, HW2.out⟩, by simp [intOf]; omega⟩
    · have HW4 : Hid (Below W1.heap.size W1 wr) := hbw
      clear hbw hkr HW
      obtain rfl : i = 4 := by omega
      have hc := bits29_ok (HA1.out.later HW4.out) c (HL.out.later HW4.out) HF.out.b HF.out.b1 HFl.out.blk HFl.out.tot HF.out.bi HF.out.bi1 HF.out.ba HFl.out.bits
      rw [HN.out] at hc
      go_wp2_with (first | (go_at_call 82; fail))
      refine hc.mono ?_
      rintro e W5 ⟨rfl, hb⟩
      have HW5 : Hid (Below W1.heap.size W1 W5) := below_next HW4.out hb
      clear hc hb HW4
      have hc := filesF29_ok (HA1.out.later HW5.out) c (HL.out.later HW5.out) 12 HFl.out.sb (fun x hx => (HFl.out.fine x hx).2.2.2.2)
      rw [HN.out] at hc
      go_wp2_with (first | (go_at_call 81; fail))
      refine hc.mono ?_
      rintro e W6 ⟨rfl, hb⟩
      have HW6 : Hid (Below W1.heap.size W1 W6) := below_next HW5.out hb
      clear hc hb HW5
      have hc := slotsF29_ok (HA1.out.later HW6.out) c (HL.out.later HW6.out) HFl.out.sb ent HFl.out.dirs
      rw [HN.out] at hc
      go_wp2_with (first | (go_at_call 83; fail))
      refine hc.mono ?_
      rintro e W7 ⟨rfl, hb⟩
      have HW7 : Hid (Below W1.heap.size W1 W7) := below_next HW6.out hb
      clear hc hb HW6
      have hc := names29_ok (HA1.out.later HW7.out) c (HL.out.later HW7.out) HFl.out.sb ent (fun x hx h2 _ => (HFl.out.dirs x hx h2).ok) HFl.out.names
      rw [HN.out] at hc
      go_wp2_with (first | (go_at_call 84; fail))
      refine hc.mono ?_
      rintro e W8 ⟨v, rfl, hnm⟩
      have HW8 : Hid (Below W1.heap.size W1 W8) := below_next HW7.out hnm.bel
      obtain ⟨pn, cn, rfl, hlie⟩ := OwnG.lie pc2_len hnm.own
      have HNm : Hid (LieG pc2 2 W8 pn (namesP ent L)) := hlie
      clear hc hnm HW7 hlie
      obtain ⟨M, hM⟩ : ∃ M, (namesP ent L).length = M := ⟨_, rfl⟩
      have HM : Hid ((namesP ent L).length = M) := hM
      rw [hM]
      clear hM
      have hc := tree29_ok (HA1.out.later HW8.out) c cn (HL.out.later HW8.out) HNm.out HFl.out.names HF.out.nodes.i ⟨HF.out.i1, HF.out.nodes.i1⟩ HFl.out.nb HFl.out.sb ent (fun x hx h2 h3 => ⟨(HFl.out.dirs x hx h2).ok, HFl.out.tree x hx h2 h3⟩)
      rw [HN.out, HM.out] at hc
      go_wp2_with (first | (go_at_call 85; fail))
      refine hc.mono ?_
      rintro e W9 ⟨rfl, hb⟩
      have HW9 : Hid (Below W1.heap.size W1 W9) := below_next HW8.out hb
      have hc2 := links29_ok (g := g) c cn (HL.out.later HW9.out) (HNm.out.later hb) HFl.out.names HFl.out.lk HFl.out.link
      rw [HN.out, HM.out] at hc2
      clear hc hb HW8 HNm
      go_wp2_with (first | (go_at_call 86; fail))
      refine hc2.mono ?_
      rintro e W10 ⟨rfl, hb⟩
      have HW10 : Hid (Below w.heap.size w W10) := below_next HB1.out (below_next HW9.out hb)
      clear hc2 hb HW9
      go_wp2
      go_ret
      exact ⟨rfl, HW10.out⟩
end Go.Proofs.YtlcdpmjdnihocaaGreat
/- A superblock, read; the document's own words. -/
namespace Go.Proofs.YtlcdpmjdnihocaaGreat
open Go.RowKit Go.Maps
theorem zero3i : ∀ w, (zeroValue 176).run Tryz.prog w = .ok (.agg (rowN .i64 nought 3)) w := (zero_of_info (show (Tryz.prog.info? 176).map (fun i => (i.zero, i.size)) = some (some (.agg (rowN .i64 nought 3)), 3) by kernel_rfl)).1
structure DeS (w W : World) (y : Lay) (f : Nat → Int) : Prop where
  blk : W.heap[w.heap.size]? = some (.cells (blk (supP y)) 79)
  res : W.heap[w.heap.size + 1]? = some (.cells (layRow lay0) 52)
  row : W.heap[w.heap.size + 2]? = some (.cells (rowN .i64 f 3) 176)
  bel : Below w.heap.size w W
theorem DeS.call {w W W' : World} {y : Lay} {f : Nat → Int} (h : DeS w W y f) (hb : Below W.heap.size W W') : DeS w W' y f := ⟨heap_kept h.blk hb, heap_kept h.res hb, heap_kept h.row hb, below_next h.bel hb⟩
theorem DeS.set {w W : World} {y : Lay} {f : Nat → Int} (h : DeS w W y f) (i : Nat) (x : Int) : DeS w (W.setCell ⟨w.heap.size + 2, i, none⟩ (.int .i64 x)) y (updN f i x) := by
  have hF := Fr.setCell W (w.heap.size + 2) i (.int .i64 x)
  exact ⟨(hF.block _ (Array.getElem?_eq_some_iff.1 h.blk).1 (by omega)).trans h.blk, (hF.block _ (Array.getElem?_eq_some_iff.1 h.res).1 (by omega)).trans h.res, setCell_rowN h.row i x, h.bel.trans (hF.below (fun j q => by omega) h.bel.size)⟩
theorem four_step {v : Int} (m : Nat) : 256 * (v / 256 ^ (m + 1)) + v / 256 ^ m % 256 = v / 256 ^ m := by
  have : v / 256 ^ (m + 1) = v / 256 ^ m / 256 := by rw [Int.ediv_ediv_of_nonneg (Int.le_of_lt (Int.pow_pos (by decide))), Int.pow_succ]
  rw [this]
  omega
theorem exec_st3 {o : Oper} {a : Act} {W : World} {x y : Operand} {g i : Nat} {v : Int} {old : Value} (ho : o.op = .store 3 x y) (hx : a.eval x = .pointer (some ⟨g, i, none⟩)) (hy : a.eval y = .int .i64 v) (hc : W.cell? ⟨g, i, none⟩ = some old) (hf : W.frozen? ⟨g, i, none⟩ = false) : (execOp a.eval o).run Tryz.prog W = .ok .skip (W.setCell ⟨g, i, none⟩ (.int .i64 v)) := by
  obtain ⟨i0, hi0, hz1⟩ : ∃ i0, Tryz.prog.info? 3 = some i0 ∧ i0.size = 1 := by
    have h : (Tryz.prog.info? 3).map (·.size) = some 1 := by kernel_rfl
    cases hq : Tryz.prog.info? 3 with
    | none => rw [hq] at h; cases h
    | some i => rw [hq] at h; exact ⟨i, rfl, by simpa using h⟩
  generalize a.eval = E at *
  unfold execOp
  simp only [ho]
  simp [hx, hy, Instr.storeAt, Instr.sureAddr, storeVar, sizeOf, typeInfo, hi0, hz1, storeCells, go_sem, hc, hf]
set_option maxRecDepth 20000 in
set_option maxHeartbeats 4000000 in
theorem dec03_ok {b l i : Nat} (h : GeoOk b l i) (n : Int) (hn : (b : Int) ≤ n) (w : World) :
    Calls Tryz.prog 75 #[.agg (blk (supP (layOf b l i))), .int .i64 n] w fun e w' => e = .returned (.tuple #[.agg (layRow (layOf b l i)), .int .i64 0]) ∧ Below w.heap.size w w' := by
  have z := zeroLay
  have z3 := zero3i
  have z76 := zero77
  obtain ⟨y, hy⟩ : ∃ y, layOf b l i = y := ⟨_, rfl⟩
  have HBd : Hid (∀ j, j < 3 → 0 ≤ numL y j ∧ numL y j < 4294967296) := fun j hj => by
    rw [← hy]
    obtain ⟨h1, h2, h3, h4, h5, h6, h7⟩ := h
    rcases (show j = 0 ∨ j = 1 ∨ j = 2 by omega) with rfl | rfl | rfl
    · show 0 ≤ (b : Int) ∧ (b : Int) < _; omega
    · show 0 ≤ (l : Int) ∧ (l : Int) < _; omega
    · show 0 ≤ (i : Int) ∧ (i : Int) < _; omega
  have HNm : Hid (numL y 0 = b ∧ numL y 1 = l ∧ numL y 2 = i) := by rw [← hy]; exact ⟨rfl, rfl, rfl⟩
  obtain ⟨A, hA⟩ : ∃ A, A = ((w.alloc (.cells (blk (supP y)) 79)).alloc (.cells (layRow lay0) 52)).alloc (.cells (rowN .i64 nought 3) 176) := ⟨_, rfl⟩
  have HD : Hid (DeS w A y nought) := by
    rw [hA]
    refine ⟨heap_kept (heap_kept (heap_alloc_new _ _) (below_new _ _)) (below_new _ _), heap_kept (heap_two _ _ _) (below_new _ _), ?_, below_next (below_next (below_new _ _) (below_new _ _)) (below_new _ _)⟩
    have := heap_alloc_new ((w.alloc (.cells (blk (supP y)) 79)).alloc (.cells (layRow lay0) 52)) (.cells (rowN .i64 nought 3) 176)
    simpa using this
  have HG : Hid (GeoOk b l i) := h
  have HY : Hid (layOf b l i = y) := hy
  rw [hy]
  have HA : Hid (A = _) := hA
  clear hA h hy
  go_enter Tryz.func75, Tryz.ntmps75
  go_wp2
  rw [← HA.out]
  clear HA
  go_loopw [7, 8] (fun s7 _ wx => ∃ (j : Nat) (f : Nat → Int), j ≤ 3 ∧ s7 = .int .i64 j ∧ Hid ((∀ q, q < j → f q = numL y q) ∧ ∀ q, j ≤ q → f q = 0) ∧ Hid (DeS w wx y f)) (fun s7 _ _ => 3 - (intOf s7).toNat)
  case atStart => exact ⟨0, nought, by omega, rfl, ⟨fun q hq => absurd hq (by omega), fun _ _ => rfl⟩, HD.out⟩
  case round =>
    clear HD
    obtain ⟨j, f, hj, rfl, HF, HD⟩ := hrel
    by_cases hj2 : (j : Int) < 3
    · have hj3 : j < 3 := by omega
      have hbd := HBd.out j hj3
      have HSp : Hid (∀ k, k < 4 → supP y (8 + 4 * j + k) = numL y j / 256 ^ k % 256) := fun k hk => supP_num y j k (by omega) hk
      have HF0 : Hid (f j = numL y j / 256 ^ 4) := by show _ = _; rw [HF.out.2 j (Nat.le_refl _)]; omega
      generalize hv : numL y j = v at *
      go_wp2
      go_loopw [8] (fun s8 wx => ∃ (m : Nat) (f' : Nat → Int), m ≤ 4 ∧ s8 = .int .i64 ((m : Int) - 1) ∧ Hid (f' j = v / 256 ^ m ∧ ∀ q, ¬ q = j → f' q = f q) ∧ Hid (DeS w wx y f')) (fun s8 _ => (intOf s8 + 1).toNat)
      case atStart => exact ⟨4, f, by omega, rfl, ⟨HF0.out, fun _ _ => rfl⟩, HD.out⟩
      case round =>
        clear HD HF0
        obtain ⟨m, f', hm, rfl, HF', HD⟩ := hrel
        by_cases hm0 : m = 0
        · subst hm0
          have HFj : Hid ((∀ q, q < j + 1 → f' q = numL y q) ∧ ∀ q, j + 1 ≤ q → f' q = 0) := by
            refine ⟨fun q hq => ?_, fun q hq => ?_⟩
            · by_cases e : q = j
              · rw [e, HF'.out.1, hv]; simp
              · rw [HF'.out.2 q e]; exact HF.out.1 q (by omega)
            · rw [HF'.out.2 q (by omega)]; exact HF.out.2 q (by omega)
          clear HF' HF
          go_wp2
          exact ⟨⟨j + 1, f', by omega, by go_num, HFj.out, HD.out⟩, by simp [intOf]; omega⟩
        · obtain ⟨k, rfl⟩ : ∃ k, m = k + 1 := ⟨m - 1, by omega⟩
          have hk : (((k + 1 : Nat) : Int) - 1) = (k : Int) := by omega
          have hfj := HF'.out.1
          have hbs : supP y (8 + 4 * j + k) = v / 256 ^ k % 256 := HSp.out k (by omega)
          have hst := four_step (v := v) k
          have hbb : v / 256 ^ (k + 1) ≤ v := Int.ediv_le_self _ hbd.1
          have hbc : v / 256 ^ k ≤ v := Int.ediv_le_self _ hbd.1
          have hb0 : 0 ≤ v / 256 ^ (k + 1) := Int.ediv_nonneg hbd.1 (Int.le_of_lt (Int.pow_pos (by decide)))
          have hc0 : 0 ≤ v / 256 ^ k := Int.ediv_nonneg hbd.1 (Int.le_of_lt (Int.pow_pos (by decide)))
          have cb := cell_rowN (i := 8 + 4 * j + k) (m := 1024) HD.out.blk (by omega)
          rw [hbs] at cb
          have cj := cell_rowN (i := j) HD.out.row hj3
          rw [hfj] at cj
          have fj := frozen_row HD.out.row j
          have HDd : Hid (DeS w wr.drew y f') := HD.out.call (Below.refl _ _).drew
          have HD2 : Hid (DeS w (wr.drew.setCell ⟨w.heap.size + 2, j, none⟩ (.int .i64 (v / 256 ^ k))) y (updN f' j (v / 256 ^ k))) := HDd.out.set j _
          have HFn : Hid (updN f' j (v / 256 ^ k) j = v / 256 ^ k ∧ ∀ q, ¬ q = j → updN f' j (v / 256 ^ k) q = f q) := ⟨by simp [updN], fun q hq => by unfold updN; rw [if_neg hq]; exact HF'.out.2 q hq⟩
          rw [hk]
          generalize v / 256 ^ (k + 1) = p at *
          generalize hr : v / 256 ^ k = r at *
          have HRv : Hid (v / 256 ^ k = r) := hr
          clear hr
          have e1 : IntKind.i64.wrap (256 * p) = 256 * p := by rw [IntKind.wrap_i64]; omega
          have e2 : IntKind.i64.wrap (r % 256) = r % 256 := by rw [IntKind.wrap_i64]; omega
          have e3 : IntKind.i64.wrap (256 * p + r % 256) = r := by rw [hst, IntKind.wrap_i64]; omega
          have e5 : IntKind.i64.wrap (4 * (j : Int)) = 4 * (j : Int) := by rw [IntKind.wrap_i64]; omega
          have e6 : IntKind.i64.wrap (8 + 4 * (j : Int)) = 8 + 4 * (j : Int) := by rw [IntKind.wrap_i64]; omega
          have e7 : IntKind.i64.wrap (8 + 4 * (j : Int) + (k : Int)) = ((8 + 4 * j + k : Nat) : Int) := by rw [IntKind.wrap_i64]; omega
          have e7' : 8 + 4 * (j : Int) + (k : Int) = ((8 + 4 * j + k : Nat) : Int) := by omega
          have hml : 8 + 4 * j + k < 1024 := by omega
          have HSb : Hid ((wr.drew.setCell ⟨w.heap.size + 2, j, none⟩ (.int .i64 r)).cell? ⟨w.heap.size, 8 + 4 * j + k, none⟩ = some (.int .u8 (r % 256))) := by
            have := cell_rowN (i := 8 + 4 * j + k) (m := 1024) HD2.out.blk (by omega)
            rwa [hbs] at this
          clear hbs hfj HF' HD HDd hbb hk
          generalize hmm : 8 + 4 * j + k = mm at *
          have e8 : IntKind.i64.wrap (mm : Int) = (mm : Int) := by rw [IntKind.wrap_i64]; omega
          have hmI : (mm : Int) < 1024 := by omega
          have e9 : IntKind.i64.wrap r = r := by rw [IntKind.wrap_i64]; omega
          go_upto_region 8 with fail
          refine wp_region_ord (S := fun u => u.cell? ⟨w.heap.size, mm, none⟩ = some (.int .u8 (r % 256))) [(0, true), (1, true), (2, true), (5, true), (6, true), (7, true), (8, true), (9, true), (10, true), (11, true), (12, true), (3, false), (4, true), (13, true), (14, true), (15, false)] (by kernel_rfl) rfl (by kernel_rfl) (fun d _ _ _ _ h => by cases d <;> exact h) cb ?_
          have cjd : wr.drew.cell? ⟨w.heap.size + 2, j, none⟩ = some (.int .i64 p) := cj
          have fjd : wr.drew.frozen? ⟨w.heap.size + 2, j, none⟩ = false := fj
          simp only [inOrd, List.getElem?_cons_zero, List.getElem?_cons_succ]
          refine wpOrd_yield (v := .int .i64 (j : Int)) rfl (fun u _ => exec_mv rfl rfl) ?_
          simp only [Act.put, List.setIfInBounds_toArray, List.set_cons_succ, List.set_cons_zero]
          refine wpOrd_yield (v := .int .i64 (j : Int)) rfl (fun u _ => exec_mv rfl rfl) ?_
          simp only [Act.put, List.setIfInBounds_toArray, List.set_cons_succ, List.set_cons_zero]
          refine wpOrd_yield (v := .pointer (some ⟨w.heap.size + 2, j, none⟩)) rfl (fun u _ => by go_simp) ?_
          simp only [Act.put, List.setIfInBounds_toArray, List.set_cons_succ, List.set_cons_zero]
          refine wpOrd_yield (v := .int .i64 (j : Int)) rfl (fun u _ => exec_mv rfl rfl) ?_
          simp only [Act.put, List.setIfInBounds_toArray, List.set_cons_succ, List.set_cons_zero]
          refine wpOrd_yield (v := .int .i64 (4 * (j : Int))) rfl (fun u _ => by go_simp) ?_
          simp only [Act.put, List.setIfInBounds_toArray, List.set_cons_succ, List.set_cons_zero]
          refine wpOrd_yield (v := .int .i64 (8 + 4 * (j : Int))) rfl (fun u _ => by go_simp) ?_
          simp only [Act.put, List.setIfInBounds_toArray, List.set_cons_succ, List.set_cons_zero]
          refine wpOrd_yield (v := .int .i64 (k : Int)) rfl (fun u _ => exec_mv rfl rfl) ?_
          simp only [Act.put, List.setIfInBounds_toArray, List.set_cons_succ, List.set_cons_zero]
          refine wpOrd_yield (v := .int .i64 (mm : Int)) rfl (fun u _ => by go_simp) ?_
          simp only [Act.put, List.setIfInBounds_toArray, List.set_cons_succ, List.set_cons_zero]
          refine wpOrd_yield (v := .pointer (some ⟨w.heap.size, mm, none⟩)) rfl (fun u _ => by go_simp) ?_
          simp only [Act.put, List.setIfInBounds_toArray, List.set_cons_succ, List.set_cons_zero]
          refine wpOrd_yield (v := .int .u8 (r % 256)) rfl (fun u hu => by have := hu; go_simp) ?_
          simp only [Act.put, List.setIfInBounds_toArray, List.set_cons_succ, List.set_cons_zero]
          refine wpOrd_yield (v := .int .i64 (r % 256)) rfl (fun u _ => by go_simp) ?_
          simp only [Act.put, List.setIfInBounds_toArray, List.set_cons_succ, List.set_cons_zero]
          refine wpOrd_act (W' := wr.drew) (v := .int .i64 p) rfl (by go_simp) cb ?_
          simp only [Act.put, List.setIfInBounds_toArray, List.set_cons_succ, List.set_cons_zero]
          refine wpOrd_yield (v := .int .i64 (256 * p)) rfl (fun u _ => by go_simp) ?_
          simp only [Act.put, List.setIfInBounds_toArray, List.set_cons_succ, List.set_cons_zero]
          refine wpOrd_yield (v := .int .i64 r) rfl (fun u _ => by go_simp) ?_
          simp only [Act.put, List.setIfInBounds_toArray, List.set_cons_succ, List.set_cons_zero]
          refine wpOrd_yield (v := .pointer (some ⟨w.heap.size + 2, j, none⟩)) rfl (fun u _ => by go_simp) ?_
          simp only [Act.put, List.setIfInBounds_toArray, List.set_cons_succ, List.set_cons_zero]
          refine wpOrd_do rfl (exec_st3 rfl rfl rfl cjd fjd) HSb.out ?_
          simp only [Act.put]
          refine wpOrd_nil ?_
          clear cj fj cjd fjd cb e1 e2 e3 e5 e6 e7 e7' e8 e9 hst
          generalize wr.drew.setCell ⟨w.heap.size + 2, j, none⟩ (.int .i64 r) = X at *
          go_wp2
          exact ⟨⟨k, _, by omega, by go_num, by rw [HRv.out]; exact HFn.out, HD2.out⟩, by simp [intOf]⟩
    · obtain rfl : j = 3 := by omega
      obtain ⟨n0, n1, n2⟩ := HNm.out
      have q0 := cell_rowN (i := 0) HD.out.row (by omega)
      have q1 := cell_rowN (i := 1) HD.out.row (by omega)
      have q2 := cell_rowN (i := 2) HD.out.row (by omega)
      rw [HF.out.1 0 (by omega), n0] at q0
      rw [HF.out.1 1 (by omega), n1] at q1
      rw [HF.out.1 2 (by omega), n2] at q2
      have hof := of03_ok HG.out wr
      rw [HY.out] at hof
      unfold geoRow at hof
      have HF0 : Hid (f 0 = (b : Int)) := by show _ = _; rw [HF.out.1 0 (by omega), n0]
      clear n0 n1 n2 HF
      go_wp2_with (first | (go_at_call 27; fail))
      refine hof.mono ?_
      rintro e W1 ⟨rfl, hb⟩
      have HD1 : Hid (DeS w (W1.alloc (.cells (layRow y) 52)) y f) := (HD.out.call hb).call (below_new _ _)
      have HY1 : Hid ((W1.alloc (.cells (layRow y) 52)).heap[W1.heap.size]? = some (.cells (layRow y) 52)) := heap_alloc_new _ _
      clear hof hb HD
      have henc := enc03_ok HG.out (W1.alloc (.cells (layRow y) 52))
      rw [HY.out] at henc
      clear q1 q2
      go_upto_region 10 with (first | (with_reducible refine isStoreR 52 ?_; refine wpList_stNew 52 rfl (.tmp 9) (.tmp 45) rfl W1.heap.size (layRow y) (layRow lay0) 52 (lay_info _) (lay_two _ _) (lay_one _) rfl rfl rfl ?_))
      generalize W1.alloc (.cells (layRow y) 52) = X1 at *
      generalize W1.heap.size = gy at *
      go_wp2_with (first | (with_reducible refine isLoadR 52 ?_; refine wpList_ldR 52 Tryz.underlying52 rfl rfl (.tmp 9) rfl gy rfl (layRow y) 52 (0, 0) (lay_info _) HY1.out ?_) | (go_at_call 47; fail))
      refine henc.mono ?_
      rintro e W2 ⟨rfl, hb⟩
      have HD2 : Hid (DeS w (W2.alloc (.cells (blk (supP y)) 79)) y f) := (HD1.out.call hb).call (below_new _ _)
      have HY2 : Hid _ := heap_kept (heap_kept HY1.out hb) (below_new W2 (.cells (blk (supP y)) 79))
      have HB2 : Hid ((W2.alloc (.cells (blk (supP y)) 79)).heap[W2.heap.size]? = some (.cells (blk (supP y)) 79)) := heap_alloc_new _ _
      clear henc hb HD1 HY1 q0
      go_upto_region 11 with (first | (with_reducible refine isStoreR 79 ?_; refine wpList_stBn rfl (.tmp 11) (.tmp 50) rfl W2.heap.size (supP y) nought 79 rfl rfl rfl ?_))
      generalize W2.alloc (.cells (blk (supP y)) 79) = X2 at *
      generalize W2.heap.size = gc at *
      have q0 := cell_rowN (i := 0) HD2.out.row (by omega)
      rw [HF0.out] at q0
      have hc0 := blk_at HB2.out
      have hb0 := blk_at HD2.out.blk
      have g1 : decide (n < (b : Int)) = false := decide_eq_false (by omega)
      have hsame := sameN_self 1024 (supP y)
      have HOr := HD2.out.res
      have HBe : Hid _ := HD2.out.bel
      clear HD2 HB2
      generalize supP y = fs at *
      go_wp2_with (first | (with_reducible refine isLoadR 79 ?_; refine wpList_ldB rfl (.tmp 11) rfl gc 0 fs rfl hc0 ?_) | (with_reducible refine isLoadR 79 ?_; refine wpList_ldB rfl (.tmp 2) rfl w.heap.size 0 fs rfl hb0 ?_) | (with_reducible refine isEqR 79 79 ?_; refine wpList_neN Tryz.underlying79 eg77 rfl (.tmp 59) (.tmp 60) rfl fs fs true rfl rfl hsame ?_) | (with_reducible refine isLoadR 52 ?_; refine wpList_ldR 52 Tryz.underlying52 rfl rfl (.tmp 9) rfl gy rfl (layRow y) 52 (0, 0) (lay_info _) HY2.out ?_) | (with_reducible refine isStoreR 52 ?_; refine wpList_stR 52 rfl (.tmp 4) (.tmp 70) rfl (w.heap.size + 1) (layRow y) (layRow lay0) 52 (lay_info _) (lay_two _ _) (lay_one _) rfl rfl HOr ?_))
      exact retCTA Tryz.underlying52 rfl rfl (w.heap.size + 1) _ 52 (lay_info _) rfl (setRow_heap _ _ _ _ _ _ HOr) rfl ⟨rfl, HBe.out.trans ((Fr.setRow X2 (w.heap.size + 1) _).below (fun j q => by omega) HBe.out.size)⟩
end Go.Proofs.YtlcdpmjdnihocaaGreat
/- A log's header that names no block, read; the document's own words. -/
namespace Go.Proofs.YtlcdpmjdnihocaaGreat
open Go.RowKit Go.Maps
set_option maxHeartbeats 400000 in
theorem inside01_ok (i : Int) (h : 0 ≤ i ∧ i < 1024) (w : World) : Calls Tryz.prog 161 #[.int .i64 i] w fun e w' => e = .returned (.bool true) ∧ w' = w := by
  obtain ⟨h1, h2⟩ := h
  have g1 : decide (0 ≤ i) = true := decide_eq_true h1
  have g2 : decide (i < 1024) = true := decide_eq_true h2
  go_enter Tryz.func161, Tryz.ntmps161
  go_wp2
  go_ret
  exact ⟨rfl, rfl⟩
set_option maxRecDepth 20000 in
set_option maxHeartbeats 1000000 in
theorem number01_zero (f : Nat → Int) (h : ∀ j, j < 4 → f j = 0) (w : World) : Calls Tryz.prog 150 #[.agg (blk f), .int .i64 0, .int .i64 4] w fun e w' => e = .returned (.int .u32 0) ∧ Below w.heap.size w w' := by
  have HX : Hid _ := heap_alloc_new w (.cells (blk f) 79)
  have HB : Hid _ := below_new w (.cells (blk f) 79)
  have i0 := inside01_ok 0 (by decide)
  have i3 := inside01_ok 3 (by decide)
  have HF : Hid _ := h
  clear h
  go_enter Tryz.func150, Tryz.ntmps150
  go_upto_region 1 with fail
  generalize w.alloc (.cells (blk f) 79) = V at *
  go_wp2_with (first | (go_at_call 161; fail))
  refine (i0 _).mono ?_
  rintro e W1 ⟨rfl, rfl⟩
  go_wp2_with (first | (go_at_call 161; fail))
  refine (i3 _).mono ?_
  rintro e W1 ⟨rfl, rfl⟩
  go_wp2
  go_loopw [7, 8] (fun s7 s8 wx => wx = W1 ∧ s7 = .int .u32 0 ∧ ∃ m : Nat, m ≤ 4 ∧ s8 = .int .i64 ((m : Int) - 1)) (fun _ s8 _ => (intOf s8 + 1).toNat)
  case atStart => exact ⟨rfl, rfl, 4, by omega, rfl⟩
  case round =>
    obtain ⟨rfl, rfl, m, hm, rfl⟩ := hrel
    by_cases hm0 : m = 0
    · subst hm0
      go_wp2
      go_ret
      exact ⟨rfl, HB.out⟩
    · obtain ⟨k, rfl⟩ : ∃ k, m = k + 1 := ⟨m - 1, by omega⟩
      have hk : (((k + 1 : Nat) : Int) - 1) = (k : Int) := by omega
      have cb := cell_rowN (i := k) (m := 1024) HX.out (by omega)
      rw [HF.out k (by omega)] at cb
      rw [hk]
      have hk4 : (k : Int) < 1024 := by omega
      have hk5 : k < 1024 := by omega
      go_wp2
      exact ⟨⟨trivial, rfl, k, by omega, by go_num⟩, by simp [intOf]⟩
set_option maxRecDepth 20000 in
set_option maxHeartbeats 1000000 in
theorem u32_zero (f : Nat → Int) (h : ∀ j, j < 4 → f j = 0) (w : World) : Calls Tryz.prog 119 #[.agg (blk f), .int .i64 0] w fun e w' => e = .returned (.int .u32 0) ∧ Below w.heap.size w w' := by
  have hX := heap_alloc_new w (.cells (blk f) 79)
  have HB : Hid _ := below_new w (.cells (blk f) 79)
  have hn := number01_zero f h (w.alloc (.cells (blk f) 79))
  have hx0 := blk_at hX
  clear h hX
  go_enter Tryz.func119, Tryz.ntmps119
  go_wp2_with (first | (with_reducible refine isLoadR 79 ?_; refine wpList_ldB rfl (.tmp 2) rfl w.heap.size 0 f rfl hx0 ?_) | (go_at_call 150; fail))
  refine hn.mono ?_
  rintro e W1 ⟨rfl, hb⟩
  have HB1 : Hid (Below w.heap.size w W1) := below_next HB.out hb
  clear hn hb
  go_wp2
  go_ret
  exact ⟨rfl, HB1.out⟩
def hd0 : Array Value := #[.slice none 0 0]
theorem hd_info : (Tryz.prog.info? 104).map (·.size) = some hd0.size := by show _ = some 1; kernel_rfl
theorem hd_one : hd0.all (·.oneCell') = true := by simp [hd0, Value.oneCell']
theorem zeroHd : ∀ w, (zeroValue 104).run Tryz.prog w = .ok (.agg hd0) w := (zero_of_info (show (Tryz.prog.info? 104).map (fun i => (i.zero, i.size)) = some (some (.agg hd0), 1) by kernel_rfl)).1
set_option maxRecDepth 20000 in
set_option maxHeartbeats 1000000 in
theorem may07_none (y : Lay) (h : 1 ≤ y.l ∧ y.l ≤ 1000000) (w : World) : Calls Tryz.prog 120 #[.agg (layRow y), .agg hd0] w fun e w' => e = .returned (.bool true) ∧ Below w.heap.size w w' := by
  obtain ⟨A, hA⟩ : ∃ A, A = (w.alloc (.cells (layRow y) 52)).alloc (.cells hd0 104) := ⟨_, rfl⟩
  have hx : A.heap[w.heap.size]? = some (.cells (layRow y) 52) := by rw [hA]; exact heap_kept (heap_alloc_new _ _) (below_new _ _)
  have hh : A.heap[w.heap.size + 1]? = some (.cells hd0 104) := by rw [hA]; exact heap_two _ _ _
  have HB : Hid (Below w.heap.size w A) := by rw [hA]; exact below_next (below_new _ _) (below_new _ _)
  have c1 : A.cell? ⟨w.heap.size, 1, none⟩ = some (.int .i64 y.l) := Joins.cell_of_block hx 1
  have d0 : A.cell? ⟨w.heap.size + 1, 0, none⟩ = some (.slice none 0 0) := Joins.cell_of_block hh 0
  have HA : Hid (A = _) := hA
  clear hA hx hh
  have e1 : IntKind.i64.wrap (y.l - 1) = y.l - 1 := by rw [IntKind.wrap_i64]; omega
  have g1 : decide (y.l - 1 < 0) = false := decide_eq_false (by omega)
  go_enter Tryz.func120, Tryz.ntmps120
  go_upto_region 1 with fail
  rw [← HA.out]
  clear HA
  generalize y.l = ll at *
  go_wp2
  go_loopw [5, 6, 7] (fun s5 _ _ wx => s5 = .int .i64 0 ∧ wx = A) (fun _ _ _ _ => 0)
  case atStart => exact ⟨rfl, rfl⟩
  case round =>
    obtain ⟨rfl, rfl⟩ := hrel
    go_wp2
    go_ret
    exact ⟨rfl, HB.out⟩
structure D7 (w W : World) (y : Lay) (f : Nat → Int) : Prop where
  lay : W.heap[w.heap.size]? = some (.cells (layRow y) 52)
  blk : W.heap[w.heap.size + 1]? = some (.cells (blk f) 79)
  res : W.heap[w.heap.size + 2]? = some (.cells hd0 104)
  bel : Below w.heap.size w W
theorem D7.call {w W W' : World} {y : Lay} {f : Nat → Int} (h : D7 w W y f) (hb : Below W.heap.size W W') : D7 w W' y f := ⟨heap_kept h.lay hb, heap_kept h.blk hb, heap_kept h.res hb, below_next h.bel hb⟩
set_option maxRecDepth 20000 in
set_option maxHeartbeats 4000000 in
theorem dec07_none {b l i : Nat} (h : GeoOk b l i) (f : Nat → Int) (hf : ∀ j, j < 4 → f j = 0) (w : World) :
    Calls Tryz.prog 77 #[.agg (layRow (layOf b l i)), .agg (blk f)] w fun e w' => e = .returned (.tuple #[.agg hd0, .int .i64 0]) ∧ Below w.heap.size w w' := by
  have zh := zeroHd
  obtain ⟨y, hy⟩ : ∃ y, layOf b l i = y := ⟨_, rfl⟩
  have hl : y.l = (l : Int) := by rw [← hy]; rfl
  obtain ⟨A, hA⟩ : ∃ A, A = ((w.alloc (.cells (layRow y) 52)).alloc (.cells (blk f) 79)).alloc (.cells hd0 104) := ⟨_, rfl⟩
  have HD : Hid (D7 w A y f) := by
    rw [hA]
    refine ⟨heap_kept (heap_kept (heap_alloc_new _ _) (below_new _ _)) (below_new _ _), heap_kept (heap_two _ _ _) (below_new _ _), ?_, below_next (below_next (below_new _ _) (below_new _ _)) (below_new _ _)⟩
    have := heap_alloc_new ((w.alloc (.cells (layRow y) 52)).alloc (.cells (blk f) 79)) (.cells hd0 104)
    simpa using this
  have hfit := fits03_ok h A
  have hl1 := h.l1
  have hl2 := h.l2
  rw [hy] at hfit ⊢
  have HFz : Hid _ := hf
  have HA : Hid (A = _) := hA
  clear hA h hy hf
  go_enter Tryz.func77, Tryz.ntmps77
  go_upto_region 1 with fail
  rw [← HA.out]
  clear HA
  go_wp2_with (first | (with_reducible refine isLoadR 52 ?_; refine wpList_ldR 52 Tryz.underlying52 rfl rfl (.tmp 2) rfl w.heap.size rfl (layRow y) 52 (0, 0) (lay_info _) HD.out.lay ?_) | (go_at_call 70; fail))
  refine hfit.mono ?_
  rintro e W1 ⟨rfl, hb⟩
  have HD1 : Hid (D7 w W1 y f) := HD.out.call hb
  clear hfit hb HD
  have hu := u32_zero f HFz.out W1
  have hb0 := blk_at HD1.out.blk
  go_wp2_with (first | (with_reducible refine isLoadR 79 ?_; refine wpList_ldB rfl (.tmp 3) rfl (w.heap.size + 1) 0 f rfl hb0 ?_) | (go_at_call 119; fail))
  refine hu.mono ?_
  rintro e W2 ⟨rfl, hb⟩
  have HD2 : Hid (D7 w W2 y f) := HD1.out.call hb
  clear hu hb HD1 hb0
  have c1 : W2.cell? ⟨w.heap.size, 1, none⟩ = some (.int .i64 (l : Int)) := by rw [← hl]; exact Joins.cell_of_block HD2.out.lay 1
  have e1 : IntKind.i64.wrap ((l : Int) - 1) = (l : Int) - 1 := by rw [IntKind.wrap_i64]; omega
  have g1 : decide ((l : Int) - 1 < 0) = false := decide_eq_false (by omega)
  have HD3 : Hid (D7 w (W2.alloc (.cells hd0 104)) y f) := HD2.out.call (below_new _ _)
  have HH3 : Hid ((W2.alloc (.cells hd0 104)).heap[W2.heap.size]? = some (.cells hd0 104)) := heap_alloc_new _ _
  clear HD2
  go_wp2
  generalize W2.alloc (.cells hd0 104) = V at *
  generalize W2.heap.size = gh at *
  clear c1 e1 g1
  have hmay := may07_none y (by omega) V
  go_loopw [8] (fun s8 wx => s8 = .int .i64 0 ∧ wx = V) (fun _ _ => 0)
  case atStart => exact ⟨rfl, rfl⟩
  case round =>
    obtain ⟨rfl, rfl⟩ := hrel
    go_wp2_with (first | (with_reducible refine isLoadR 52 ?_; refine wpList_ldR 52 Tryz.underlying52 rfl rfl (.tmp 2) rfl w.heap.size rfl (layRow y) 52 (0, 0) (lay_info _) HD3.out.lay ?_) | (with_reducible refine isLoadR 104 ?_; refine wpList_ldR 104 Tryz.underlying104 rfl rfl (.tmp 7) rfl gh rfl hd0 104 (0, 0) hd_info HH3.out ?_) | (go_at_call 120; fail))
    refine hmay.mono ?_
    rintro e W4 ⟨rfl, hb⟩
    have HD4 : Hid (D7 w W4 y f) := HD3.out.call hb
    have hh4 := heap_kept HH3.out hb
    have HOr := HD4.out.res
    clear hmay hb HD3 HH3
    go_wp2_with (first | (with_reducible refine isLoadR 104 ?_; refine wpList_ldR 104 Tryz.underlying104 rfl rfl (.tmp 7) rfl gh rfl hd0 104 (0, 0) hd_info hh4 ?_) | (with_reducible refine isStoreR 104 ?_; refine wpList_stR 104 rfl (.tmp 4) (.tmp 44) rfl (w.heap.size + 2) hd0 hd0 104 hd_info rfl hd_one rfl rfl HOr ?_))
    exact retCTA Tryz.underlying104 rfl rfl (w.heap.size + 2) hd0 104 hd_info rfl (setRow_heap _ _ _ _ _ _ HOr) rfl ⟨rfl, HD4.out.bel.trans ((Fr.setRow W4 (w.heap.size + 2) _).below (fun j q => by omega) HD4.out.bel.size)⟩
end Go.Proofs.YtlcdpmjdnihocaaGreat
