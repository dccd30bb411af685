/- The law of blocks that have a place answers true, whatever size and bytes came in; no condition but that the list's length and 100 make an int. -/
import Derived.Test.YtencclpcebpgmaaFew
import Derived.Deep.Cut
namespace Go.Proofs.Ytencclpcebpgmaa
open Go.RowKit Go.Maps

/-- Bytes that came in. -/
def BytesAt (w : World) (p : Option Addr) (n : Nat) (f : Nat → Int) : Prop := ∀ i, i < n → ∃ b off, p = some ⟨b, off, none⟩ ∧ b < w.heap.size ∧ w.cell? ⟨b, off + i, none⟩ = some (.int .u8 (f i)) ∧ 0 ≤ f i ∧ f i ≤ 255
theorem zero88 (u : World) : (zeroValue 88).run Try.prog u = .ok (.agg (iRow nought 20)) u := by
  have h : (Try.prog.info? 88).map (fun i => (i.zero, i.size)) = some (some (.agg (iRow nought 20)), 20) := by kernel_rfl
  exact (zero_of_info h).1 u
theorem few_miss {n : Int} {ps : List Int} {r k : Int} (hn : 1 ≤ n) (h : 0 ≤ k ∧ k < 20) (hk : k ∉ ps) : rdD ⟨n, rowP ps⟩ (tr r) k = tr (r + 1) := by
  unfold rdD
  rw [few_used hn h, if_pos rfl, rowP_none hk]
  rfl
set_option maxRecDepth 200000 in
set_option maxHeartbeats 40000000 in
theorem law_few (haw : ∀ u, Calls Try.prog 9 #[] u fun e w' => e = .returned (.bool true) ∧ Below u.heap.size u w') {w : World} (x : Int) (hx : I64 x) (pa : Option Addr) (m cap : Nat) (ys : Nat → Int) (hm : (m : Int) < 4611686018427387904) (hys : BytesAt w pa m ys) :
    Calls Try.prog 8 #[.int .i64 x, .slice pa m cap] w fun e w' => e = .returned (.bool true) ∧ Below w.heap.size w w' := by
  have hpl := place_any x 12 hx (by omega) w
  have h1 := Int.emod_nonneg x (show (12 : Int) ≠ 0 by omega)
  have h2 := Int.emod_lt_of_pos x (show (0 : Int) < 12 by omega)
  obtain ⟨N, hN⟩ : ∃ N : Nat, 1 + x % 12 = (N : Int) := ⟨(1 + x % 12).toNat, by omega⟩
  have hN1 : 1 ≤ N ∧ N ≤ 12 := by omega
  have hwN : IntKind.i64.wrap (1 + x % 12) = (N : Int) := by rw [IntKind.wrap_i64]; omega
  have HD : Hid (Calls Try.prog 38 #[.int .i64 20] w fun e W' => ∃ d, e = .returned (.tuple #[.pointer (some ⟨d, 0, none⟩), .int .i64 0]) ∧ Sits w W' d (newV 20) []) := sits_new (n := 20) (by decide) (Below.refl _ _) (by simp)
  have HY : Hid (BytesAt w pa m ys) := hys
  have HAW : Hid (∀ u, Calls Try.prog 9 #[] u fun e w' => e = .returned (.bool true) ∧ Below u.heap.size u w') := haw
  have z25 := zero25
  have z88 := zero88
  clear hys haw h1 h2 hN hx
  generalize x % 12 = y at *
  go_enter Try.func8, Try.ntmps8
  go_wp2_with (first | (go_at_call 36; refine hpl.mono ?_; rintro e W ⟨rfl, rfl⟩) | (go_at_call 38; fail))
  refine HD.out.mono ?_
  rintro e W1 ⟨d, rfl, h1⟩
  clear HD hpl hwN
  have H1 : Hid (Sits _ W1 d (newV 20) []) := h1
  clear h1
  go_wp2_with (go_at_call 9; fail)
  refine (HAW.out _).mono ?_
  rintro e W2 ⟨rfl, hb2⟩
  have HC : Hid (Calls Try.prog 11 _ W2 _) := sit_new (H1.out.later hb2) (n := (N : Int)) (by omega)
  clear H1 hb2 HAW
  go_wp2_with (go_at_call 11; fail)
  refine HC.out.mono ?_
  rintro e W3 ⟨c, rfl, h3⟩
  rw [show newC (N : Int) = ⟨(N : Int), rowP (rangeI 0)⟩ from rfl, show newV 20 = tr ((0 : Nat) : Int) from rfl] at h3
  have H3 : Hid (Sit _ W3 c d ⟨(N : Int), rowP (rangeI 0)⟩ (tr ((0 : Nat) : Int)) []) := h3
  clear HC h3
  unfold ptr
  go_wp2
  go_loopw [8] (fun s8 wx => ∃ k : Nat, k ≤ N ∧ s8 = .int .i64 k ∧ Hid (Sit W wx c d ⟨(N : Int), rowP (rangeI k)⟩ (tr (k : Int)) [])) (fun s8 _ => N - (intOf s8).toNat)
  case atStart => exact ⟨0, by omega, rfl, H3.out⟩
  case round =>
    obtain ⟨k, hk, rfl, HS⟩ := hrel
    clear H3
    by_cases hkN : (k : Int) < N
    · have hkn : (k : Int) ∉ rangeI k := fun q => by have := rangeI_mem.1 q; omega
      have e1 := few_new (n := (N : Int)) (ps := rangeI k) (r := (k : Int)) (k := (k : Int)) (by omega) (by omega) hkn (by rw [rangeI_len]; exact hkN)
      have e2 := few_used (n := (N : Int)) (ps := rangeI k) (r := (k : Int)) (k := (k : Int)) (by omega) (by omega)
      go_wp2_with (go_at_call 24; fail)
      refine (sit_read HS.out (tr_room (by omega)) (k : Int)).mono ?_
      rw [e1.1, e1.2, e2]
      rintro e W4 ⟨rfl, h4⟩
      have H4 : Hid (Sit W W4 c d ⟨(N : Int), rowP (rangeI k ++ [(k : Int)])⟩ (tr ((k : Int) + 1)) []) := h4
      clear HS e1 e2 h4 hkn
      generalize rdB _ _ _ = f
      go_wp2_with (refine wpList_store58_new rfl (.tmp 9) (.tmp 59) rfl f _ _ rfl rfl rfl ?_)
      refine ⟨⟨k + 1, by omega, by go_num, ?_⟩, by simp [intOf]; omega⟩
      rw [rangeI_succ]
      exact H4.out.later (below_new _ _)
    · obtain rfl : k = N := by omega
      have h5 := HS.out.add (.cells (iRow nought 20) 88)
      have H5 : Hid (Sit W (wr.alloc (.cells (iRow nought 20) 88)) c d ⟨(k : Int), rowP (rangeI k)⟩ (tr (k : Int)) [(wr.heap.size, .cells (iRow nought 20) 88)]) := h5
      have hg11 : W.heap.size ≤ wr.heap.size := HS.out.below.size
      clear h5 HS
      go_wp2
      generalize hgg : wr.heap.size = g at *
      go_loopw [12] (fun s12 wx => ∃ (j : Nat) (u : Nat → Int), j ≤ k ∧ s12 = .int .i64 j ∧ Hid (∀ i, i < j → u i = i) ∧ Hid (Sit W wx c d ⟨(k : Int), rowP (rangeI k)⟩ (tr (k : Int)) [(g, .cells (iRow u 20) 88)])) (fun s12 _ => k - (intOf s12).toNat)
      case atStart => exact ⟨0, nought, by omega, rfl, fun i hi => by omega, H5.out⟩
      case round =>
        obtain ⟨j, u, hj, rfl, HU, HS⟩ := hrel
        clear H5
        by_cases hjN : (j : Int) < k
        · have hb := HS.out.blk (List.mem_cons_self ..)
          have hcj : wr.cell? ⟨g, j, none⟩ = some (.int .i64 (u j)) := by rw [Joins.cell_of_block hb, iRow_get u 20 j (by omega)]
          have hfj := Joins.unfrozen_of_block hb j
          have h6 := HS.out.setCell (i := j) (v := .int .i64 (j : Int)) hg11 (by simp)
          rw [iRow_set] at h6
          have H6 : Hid (Sit W (wr.setCell ⟨g, j, none⟩ (.int .i64 (j : Int))) c d ⟨(k : Int), rowP (rangeI k)⟩ (tr (k : Int)) [(g, .cells (iRow (upd u j j) 20) 88)]) := h6
          clear HS h6 hb
          have HU' : Hid (∀ i, i < j + 1 → upd u j (j : Int) i = i) := fun i hi => by
            unfold upd
            split
            · next q => rw [q]
            · exact HU.out i (by omega)
          clear HU
          go_wp2
          exact ⟨⟨j + 1, upd u j j, by omega, by go_num, HU'.out, H6.out⟩, by simp [intOf]; omega⟩
        · obtain rfl : j = k := by omega
          have HR0 : Hid (Rec20 (rangeI j) j u 100) := Rec20.start (by omega) u HU.out
          clear HU hjN
          have H7 : Hid (Sit W wr c d ⟨(j : Int), rowP (rangeI j)⟩ (tr (j : Int)) [(g, .cells (iRow u 20) 88)]) := HS.out
          clear HS
          go_wp2
          go_loopw [13] (fun s13 wx => ∃ (i : Nat) (ps : List Int) (u : Nat → Int), i ≤ m ∧ s13 = .int .i64 i ∧ Hid (Rec20 ps j u (100 + i)) ∧ Hid (Sit W wx c d ⟨(j : Int), rowP ps⟩ (tr (j : Int)) [(g, .cells (iRow u 20) 88)])) (fun s13 _ => m - (intOf s13).toNat)
          case atStart => exact ⟨0, rangeI j, u, by omega, rfl, (by show Rec20 (rangeI j) j u (100 + ((0 : Nat) : Int)); exact HR0.out), H7.out⟩
          case round =>
            obtain ⟨i, ps, u', hi, rfl, HR, HS⟩ := hrel
            clear H7 HR0
            by_cases him : (i : Int) < m
            · obtain ⟨b, off, rfl, hbl, hcell, hy1, hy2⟩ := HY.out i (by omega)
              have hcw : wr.cell? ⟨b, off + i, none⟩ = some (.int .u8 (ys i)) := (HS.out.below.cell (p := ⟨b, off + i, none⟩) hbl).trans hcell
              generalize ys i = yi at *
              have hjne : (j : Int) ≠ 0 := by omega
              have hq1 := Int.emod_nonneg yi hjne
              have hq2 := Int.emod_lt_of_pos yi (show (0 : Int) < j by omega)
              have htm : yi.tmod (j : Int) = yi % (j : Int) := Int.tmod_eq_emod_of_nonneg hy1
              have hwr : IntKind.i64.wrap (yi % (j : Int)) = yi % (j : Int) := by rw [IntKind.wrap_i64]; omega
              generalize yi % (j : Int) = a at *
              obtain ⟨an, rfl⟩ : ∃ an : Nat, a = (an : Int) := ⟨a.toNat, by omega⟩
              have hmem : (an : Int) ∈ ps := mem_all HR.out ⟨hq1, hq2⟩
              have e1 := few_held (n := (j : Int)) (ps := ps) (r := (j : Int)) (k := (an : Int)) (by omega) (by omega) hmem
              have e2 := few_used (n := (j : Int)) (ps := ps) (r := (j : Int)) (k := (an : Int)) (by omega) (by omega)
              have HR2 : Hid (Rec20 (ps.erase (an : Int) ++ [(an : Int)]) j (upd u' an (100 + i)) (100 + i + 1)) := by
                have := HR.out.touch hmem
                rw [Int.toNat_natCast] at this
                exact this
              go_wp2_with (go_at_call 24; fail)
              refine (sit_read HS.out (tr_room (by omega)) (an : Int)).mono ?_
              rw [e1.1, e1.2, e2]
              rintro e W8 ⟨rfl, h8⟩
              generalize rdB _ _ _ = f
              have h9 := h8.later (below_new W8 (.cells (blk f) 59))
              have hrd := dsit_reads h9
              have hb := h9.blk (List.mem_cons_self ..)
              have hcj : (W8.alloc (.cells (blk f) 59)).cell? ⟨g, an, none⟩ = some (.int .i64 (u' an)) := by rw [Joins.cell_of_block hb, iRow_get u' 20 an (by omega)]
              have hfj := Joins.unfrozen_of_block hb an
              have h10 := h9.setCell (i := an) (v := .int .i64 (100 + i)) hg11 (by simp)
              rw [iRow_set] at h10
              have H10 : Hid (Sit W ((W8.alloc (.cells (blk f) 59)).setCell ⟨g, an, none⟩ (.int .i64 (100 + i))) c d ⟨(j : Int), rowP (ps.erase (an : Int) ++ [(an : Int)])⟩ (tr (j : Int)) [(g, .cells (iRow (upd u' an (100 + i)) 20) 88)]) := h10
              have hw100 : IntKind.i64.wrap (100 + (i : Int)) = 100 + i := by rw [IntKind.wrap_i64]; omega
              have hrr : (tr (j : Int)).reads = j := rfl
              rw [hrr] at hrd
              clear HS e1 e2 h8 h9 h10 hb HR hmem
              unfold ptr at hrd
              generalize hV9 : W8.alloc (.cells (blk f) 59) = V9 at *
              go_wp2_with (first | (refine wpList_store58_new rfl (.tmp 15) (.tmp 88) rfl f _ _ rfl rfl rfl ?_; rw [hV9]) | (go_at_call 15; refine hrd.mono ?_; rintro e W10 ⟨rfl, rfl⟩))
              refine ⟨⟨i + 1, _, _, by omega, by go_num, ?_, H10.out⟩, by simp [intOf]; omega⟩
              show Rec20 _ _ _ (100 + ((i + 1 : Nat) : Int))
              have := HR2.out
              rw [show (100 : Int) + ((i + 1 : Nat) : Int) = 100 + i + 1 by omega]
              exact this
            · have hpl : Hid (ps.length = j) := HR.out.len
              obtain rfl : i = m := by omega
              clear HY hi
              go_wp2_with (go_at_call 31; fail)
              refine (sit_orderB HS.out (by show 0 < (rowP ps).length; rw [rowP_len, hpl.out]; omega)).mono ?_
              rintro e W9 ⟨gl, cl, cur, rfl, hcur, hcl, h9⟩
              simp only [rowP_len, hpl.out, rowP_ord] at hcur hcl ⊢
              have hrd := dsit_reads h9
              rw [show (tr (j : Int)).reads = j from rfl] at hrd
              have H9 : Hid (Sit W W9 c d ⟨(j : Int), rowP ps⟩ (tr (j : Int)) [(gl, .cells cur 3), (g, .cells (iRow u' 20) 88)]) := h9
              have HCu : Hid (∀ (q : Nat) (x : Int), ps[q]? = some x → cur[q]? = some (.int .i64 x)) := hcur
              clear HS h9 hcur
              unfold ptr at hrd
              go_wp2_with (go_at_call 15; refine hrd.mono ?_; rintro e W10 ⟨rfl, rfl⟩)
              go_loopw [18] (fun s18 wx => ∃ q : Nat, q ≤ j ∧ s18 = .int .i64 q ∧ Hid (Sit W wx c d ⟨(j : Int), rowP ps⟩ (tr (j : Int)) [(gl, .cells cur 3), (g, .cells (iRow u' 20) 88)])) (fun s18 _ => j - (intOf s18).toNat)
              case atStart => exact ⟨0, by omega, rfl, H9.out⟩
              case round =>
                obtain ⟨q, hq, rfl, HS⟩ := hrel
                clear H9 hrd
                have hbl := HS.out.blk (List.mem_cons_self ..)
                have hbu := HS.out.blk (g := g) (List.mem_cons_of_mem _ (List.mem_cons_self ..))
                by_cases hqj : (q : Int) < j
                · have hpl' := hpl.out
                  have hqs : ps[q]? = some ps[q] := List.getElem?_eq_getElem (by omega)
                  have hpb := HR.out.bnd ps[q] (List.getElem_mem _)
                  have hcq : wr.cell? ⟨gl, q, none⟩ = some (.int .i64 ps[q]) := by rw [Joins.cell_of_block hbl, HCu.out q _ hqs]
                  have hcu : wr.cell? ⟨g, ps[q].toNat, none⟩ = some (.int .i64 (u' ps[q].toNat)) := by rw [Joins.cell_of_block hbu, iRow_get u' 20 _ (by omega)]
                  cases q with
                  | zero =>
                    generalize ps[0] = px at *
                    obtain ⟨pn, rfl⟩ : ∃ pn : Nat, px = (pn : Int) := ⟨px.toNat, by omega⟩
                    have HS2 : Hid (∀ nq, Sit W (wr.drewN nq) c d ⟨(j : Int), rowP ps⟩ (tr (j : Int)) [(gl, .cells cur 3), (g, .cells (iRow u' 20) 88)]) := fun nq => HS.out.later (belowN (Below.refl _ _) nq)
                    clear HS hbl hbu hqs hcu hpl'
                    have hj0 : (0 : Int) < (j : Int) := by omega
                    have hpj : (pn : Int) < (j : Int) := hpb.2
                    have hp0 : decide ((pn : Int) < 0) = false := decide_eq_false (by omega)
                    have hp1 : decide (j ≤ pn) = false := decide_eq_false (by omega)
                    clear hqj hpb hq hk hkN hj him hm hcl hgg hg11 z25 z88
                    rw [Int.natCast_zero]
                    go_upto_region 33 with fail
                    go_quiet (fail)
                    go_wp2
                    exact ⟨⟨1, by omega, by go_num, HS2.out _⟩, by simp [intOf]; omega⟩
                  | succ q' =>
                    have hqs' : ps[q']? = some ps[q'] := List.getElem?_eq_getElem (by omega)
                    have hpb' := HR.out.bnd ps[q'] (List.getElem_mem _)
                    have hlt : u' ps[q'].toNat < u' ps[q' + 1].toNat := List.pairwise_iff_getElem.1 HR.out.rise q' (q' + 1) (by omega) (by omega) (by omega)
                    have hcq' : wr.cell? ⟨gl, q', none⟩ = some (.int .i64 ps[q']) := by rw [Joins.cell_of_block hbl, HCu.out q' _ hqs']
                    have hcu' : wr.cell? ⟨g, ps[q'].toNat, none⟩ = some (.int .i64 (u' ps[q'].toNat)) := by rw [Joins.cell_of_block hbu, iRow_get u' 20 _ (by omega)]
                    generalize ps[q' + 1] = px at *
                    generalize ps[q'] = pz at *
                    obtain ⟨pn, rfl⟩ : ∃ pn : Nat, px = (pn : Int) := ⟨px.toNat, by omega⟩
                    obtain ⟨zn, rfl⟩ : ∃ zn : Nat, pz = (zn : Int) := ⟨pz.toNat, by omega⟩
                    rw [Int.toNat_natCast] at hcu hcu' hlt
                    rw [Int.toNat_natCast] at hlt
                    have hp0 : decide ((pn : Int) < 0) = false := decide_eq_false (by omega)
                    have hp1 : decide (j ≤ pn) = false := decide_eq_false (by omega)
                    have hp2 : decide ((0 : Int) < ((q' + 1 : Nat) : Int)) = true := decide_eq_true (by omega)
                    have hp3 : IntKind.i64.wrap (((q' + 1 : Nat) : Int) - 1) = (q' : Int) := by rw [IntKind.wrap_i64]; omega
                    have hp4 : decide (u' pn ≤ u' zn) = false := decide_eq_false (by omega)
                    have hp5 : (pn : Int) < 20 ∧ (zn : Int) < 20 := by omega
                    have hp6 : (q' : Int) < (j : Int) := by omega
                    have HS2 : Hid (∀ nq, Sit W (wr.drewN nq) c d ⟨(j : Int), rowP ps⟩ (tr (j : Int)) [(gl, .cells cur 3), (g, .cells (iRow u' 20) 88)]) := fun nq => HS.out.later (belowN (Below.refl _ _) nq)
                    clear HS hbl hbu hqs hqs' hpl' hpb hpb' hq hk hkN hj him hm hcl hgg hg11 z25 z88 hlt
                    generalize u' pn = up at *
                    generalize u' zn = uz at *
                    go_upto_region 33 with fail
                    go_quiet (fail)
                    go_wp2
                    exact ⟨⟨q' + 1 + 1, by omega, by go_num, HS2.out _⟩, by simp [intOf]; omega⟩
                · obtain rfl : q = j := by omega
                  have hpl' := hpl.out
                  cases ps with
                  | nil => simp at hpl'; omega
                  | cons p0 pt =>
                    have hp0b := HR.out.bnd p0 (List.mem_cons_self ..)
                    have hnd := List.nodup_cons.1 HR.out.nodup
                    have h19 : (19 : Int) ∉ p0 :: pt := fun hh => by have := HR.out.bnd 19 hh; omega
                    have e1 := few_over (n := (q : Int)) (ps := pt) (p := p0) (r := (q : Int)) (k := 19) (by omega) (by omega) h19 (by rw [hpl']; omega)
                    have e2 := few_used (n := (q : Int)) (ps := p0 :: pt) (r := (q : Int)) (k := 19) (by omega) (by omega)
                    have hp0n : p0 ∉ pt ++ [(19 : Int)] := by
                      intro hh
                      rcases List.mem_append.1 hh with hh | hh
                      · exact hnd.1 hh
                      · simp at hh; omega
                    have e3 := few_miss (n := (q : Int)) (ps := pt ++ [(19 : Int)]) (r := (q : Int) + 1) (k := p0) (by omega) (by omega) hp0n
                    have e4 := few_used (n := (q : Int)) (ps := pt ++ [(19 : Int)]) (r := (q : Int) + 1) (k := p0) (by omega) (by omega)
                    have hc0 := HCu.out 0 p0 rfl
                    have hq0 : (0 : Int) < (q : Int) := by omega
                    clear hk hkN hj him hm hcl hgg hg11 z88 hbl hbu hpl' hnd h19 hq hqj
                    go_wp2_with (go_at_call 24; fail)
                    refine (sit_read HS.out (tr_room (by omega)) 19).mono ?_
                    rw [e1.1, e1.2, e2]
                    rintro e W11 ⟨rfl, h11⟩
                    have hbl := h11.blk (List.mem_cons_self ..)
                    have hcl0 : W11.cell? ⟨gl, 0, none⟩ = some (.int .i64 p0) := by rw [Joins.cell_of_block hbl, hc0]
                    have H11 : Hid (Sit W W11 c d ⟨(q : Int), rowP (pt ++ [(19 : Int)])⟩ (tr ((q : Int) + 1)) [(gl, .cells cur 3), (g, .cells (iRow u' 20) 88)]) := h11
                    clear h11 hbl e1 e2 HS
                    generalize rdB _ _ _ = f
                    go_wp2_with (go_at_call 24; fail)
                    refine (sit_read H11.out (tr_room (by omega)) p0).mono ?_
                    rw [e3, e4]
                    rintro e W12 ⟨rfl, h12⟩
                    generalize rdB _ _ _ = f2
                    have h13 := h12.later (below_new W12 (.cells (blk f2) 59))
                    have hrd := dsit_reads h13
                    rw [show (tr ((q : Int) + 1 + 1)).reads = (q : Int) + 1 + 1 from rfl] at hrd
                    have HB13 : Hid (Below W.heap.size W (W12.alloc (.cells (blk f2) 59))) := h13.below
                    have hw2 : IntKind.i64.wrap ((q : Int) + 2) = (q : Int) + 2 := by rw [IntKind.wrap_i64]; omega
                    have heq : ((q : Int) + 1 + 1 == (q : Int) + 2) = true := by simp; omega
                    have hdq : decide ((q : Int) + 1 + 1 = (q : Int) + 2) = true := decide_eq_true (by omega)
                    clear h12 h13 H11 e3 e4
                    unfold ptr at hrd
                    generalize hV13 : W12.alloc (.cells (blk f2) 59) = V13 at *
                    go_wp2_with (first | (refine wpList_store58_new rfl (.tmp 19) (.tmp 163) rfl f2 _ _ rfl rfl rfl ?_; rw [hV13]) | (go_at_call 15; refine hrd.mono ?_; rintro e W14 ⟨rfl, rfl⟩))
                    go_ret
                    exact ⟨rfl, HB13.out⟩
end Go.Proofs.Ytencclpcebpgmaa
