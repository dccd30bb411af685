/- WalCommit: the commit of one group, write by write; for every geometry and every step. -/
import Derived.Test.YtahaiciciljijaaLStill
namespace Go.Proofs.Ytahaiciciljijaa
open Go.RowKit Go.Maps
set_option maxRecDepth 100000 in
set_option maxHeartbeats 8000000 in
theorem commit_any (b l i : Int) (p : Option Addr) (cs : List (Int × Int)) (cap : Nat) (w : World) (h : ChsAt w p cs) (hl : cs.length ≤ 9223372036854775807) (hfill : ∀ c ∈ cs, 0 ≤ c.2 ∧ c.2 ≤ 255) :
    Calls Try.prog 7 #[H.geoV b l i, .slice p cs.length cap] w fun e w' => e = .returned (.bool true) ∧ Below w.heap.size w w' := by
  obtain ⟨n, hn⟩ : ∃ n, cs.length = n := ⟨_, rfl⟩
  have HT : Hid (ChsAt w p cs ∧ cs.length = n ∧ ∀ c ∈ cs, 0 ≤ c.2 ∧ c.2 ≤ 255) := ⟨h, hn, hfill⟩
  rw [hn] at hl ⊢
  have HFit : Hid (∀ W q, W.cell? ⟨q, 0, none⟩ = some (.slice p n cap) → q < W.heap.size → Calls Try.prog 13 #[.agg #[.int .i64 b, .int .i64 l, .int .i64 i, .slice (some ⟨q, 0, none⟩) 1 1, .slice none 0 0, .int .i64 0, .slice none 0 0, .int .i64 0, .slice none 0 0]] W fun e W' => e = .returned (.bool (fitsB b l i [(p, n, cap)])) ∧ Below W.heap.size W W') := fun W q hq hlt => by
    refine fits_any b l i (some ⟨q, 0, none⟩) [(p, n, cap)] 1 none 0 0 0 none 0 0 0 none 0 0 W (fun _ => ⟨q, 0, rfl, hlt, fun j s hs => ?_⟩) (by show 1 < _; omega)
    cases j with
    | zero => have e : (p, n, cap) = s := by simpa using hs
              subst e
              exact hq
    | succ j => simp at hs
  clear h hn hfill
  unfold H.geoV at *
  go_enter Try.func7, Try.ntmps7
  go_wp2_with (first | (go_at_call 13; fail))
  refine (HFit.out _ (w.heap.size + 1) (Joins.cell_of_block (heap_alloc2_new w _ _) 0) (by simp only [World.alloc, Array.size_push]; omega)).mono ?_
  rintro e W1 ⟨rfl, hb1⟩
  have h0 := heap_kept (heap_alloc2_old w _ _) hb1
  have HB1 : Hid (Below w.heap.size w W1) := below_next (H.bel_al (below_new _ _) _) hb1
  clear HFit hb1
  cases hfit : fitsB b l i [(p, n, cap)]
  · go_wp2
    go_ret
    exact ⟨rfl, HB1.out⟩
  by_cases hn0 : n = 0
  · subst hn0
    go_wp2
    go_ret
    exact ⟨rfl, HB1.out⟩
  obtain ⟨hF, hb300, _, hn31⟩ := of_decide_eq_true hfit
  have hn31 : n ≤ 31 := hn31 (p, n, cap) (List.mem_cons_self ..)
  have hl32 : 32 ≤ l ∧ l ≤ 256 := ⟨hF.1, hF.2.1⟩
  have HFr : Hid (∀ W, Calls Try.prog 28 #[.agg #[.int .i64 b, .int .i64 l, .int .i64 i]] W fun e w' => ∃ d g, e = .returned (.tuple #[ptr d, ptr g, .agg (layA b l i), .bool true]) ∧ LogI W w' g d (newX b l i 1) (freshT b) (curV (newV b)) []) := fun W => fresh_ok hF W
  have HF : Hid (H.Fine b l i) := hF
  clear hF hfit
  have hz25 : (Try.prog.info? 25).map (·.size) = some 3 := H.size23G
  go_wp2_with (first | refine wpList_load_row rfl 25 (.tmp 2) rfl w.heap.size rfl 25 _ (0, 0) _ h0 Try.underlying25 rfl hz25 ?_ | (go_at_call 28; fail))
  refine (HFr.out _).mono ?_
  rintro e W2 ⟨d, g, rfl, h2⟩
  have hsz : (layA b l i).size = 9 := rfl
  have hone := layA_one b l i
  have h3 := Hid.mk' (h2.add (.cells (layA b l i) 31))
  clear HFr h2
  unfold ptr at *
  generalize hLA : layA b l i = LA at *
  have HLA := Hid.mk' hLA
  clear hLA
  go_wp2_with (first | (with_reducible refine H.isStore 31 ?_; refine H.wpList_storeL_new rfl _ _ rfl LA _ hsz rfl hone _ rfl rfl rfl ?_) | (go_at_call 11; fail))
  refine (lives_any _).mono ?_
  rintro e W3 ⟨rfl, hb3⟩
  have H3 := Hid.mk' (h3.out.later hb3)
  clear h3 hb3
  generalize W2.heap.size = q8 at *
  go_wp2_with (first | (go_at_call 29; fail))
  refine (H3.out.begin (r := n) (refL_of (t := freshT b) (by rfl) rfl rfl) (by omega) (by show ((0 : Nat) : Int) + n ≤ l - 1; omega)).mono ?_
  rintro e W4 ⟨rfl, h4⟩
  rw [grp_begun] at h4
  have H4 : Hid (GSt W1 W4 g d q8 LA b l i n (.slice none 0 0) (.slice none 0 0) [] (curV (newV b)) [] []) := GSt.start h4
  clear h4 H3
  go_wp2
  have hbl : 1 ≤ b - (1 + l) := by have := HF.out.2.2.2.2.2; have := HF.out.pos; unfold H.dataAt H.bitsAt H.nodeB H.bitsB at *; have := HF.out.2.2.1; omega
  clear hone
  go_loopw [10, 11, 12] (fun s10 s11 s12 wx => ∃ (k : Nat) (ord : List Int) (book : Int → Nat → Int), k ≤ n ∧ s12 = .int .i64 k ∧ Hid (ord.length ≤ k ∧ (0 < k → ord ≠ []) ∧ GSt W1 wx g d q8 LA b l i n s10 s11 ord book ord (ord.map book))) (fun _ _ s12 _ => n - (intOf s12).toNat)
  case atStart => exact ⟨0, [], curV (newV b), by omega, rfl, Nat.le_refl _, fun q => absurd q (Nat.lt_irrefl _), H4.out⟩
  case round =>
    obtain ⟨k, ord, book, hk, rfl, HG⟩ := hrel
    clear H4
    by_cases hk2 : (k : Int) < n
    · obtain ⟨hts, hn1, hfl⟩ := HT.out
      have hx : cs[k]? = some cs[k] := List.getElem?_eq_getElem (by omega)
      have hfk := hfl cs[k] (List.getElem_mem _)
      have hbW := HG.out.2.2.below
      have c20 : wr.cell? ⟨w.heap.size, 0, none⟩ = some (.int .i64 b) := Joins.cell_of_block (heap_kept h0 hbW) 0
      obtain ⟨b1, o1, rfl, l1w, C1⟩ := hts (by omega)
      have hCk := C1 k _ hx
      generalize cs[k] = c at hx hfk hCk
      obtain ⟨cat, cf⟩ := c
      dsimp only at hCk hfk
      have HQ : Hid (∀ W, Below W1.heap.size W1 W → W.cell? ⟨b1, o1 + k * 2 + 1, none⟩ = some (.int .u8 cf)) := fun W hb => ((below_next HB1.out hb).cell (p := ⟨b1, o1 + k * 2 + 1, none⟩) l1w).trans hCk.2
      have q1 := ((below_next HB1.out hbW).cell (p := ⟨b1, o1 + k * 2, none⟩) l1w).trans hCk.1
      clear hCk l1w
      have hrow := HG.out.2.2.row
      rw [← HLA.out] at hrow
      have c84 : wr.cell? ⟨q8, 4, none⟩ = some (.int .i64 (1 + l)) := Joins.cell_of_block hrow 4
      clear hts hn1 hfl hx C1 hbW hrow
      go_wp2
      have hpk := pick_any cat (b - (1 + l)) ⟨by omega, by omega⟩
      have hw1 : IntKind.i64.wrap (b - (1 + l)) = b - (1 + l) := by rw [IntKind.wrap_i64]; omega
      obtain ⟨at0, hat, hatr⟩ : ∃ at0, cat % (b - (1 + l)) = at0 ∧ 0 ≤ at0 ∧ at0 < b - (1 + l) := ⟨_, rfl, Int.emod_nonneg _ (by omega), Int.emod_lt_of_pos _ (by omega)⟩
      rw [hat] at hpk
      have hw2 : IntKind.i64.wrap (1 + l + at0) = 1 + l + at0 := by rw [IntKind.wrap_i64]; omega
      clear hat
      go_quiet ((go_at_call 17; exact Calls.quiet_of_same (hpk _)))
      have HG1 := Hid.mk' (HG.out.2.2.later (below_drewN wr nq))
      have HO := Hid.mk' HG.out.1
      have q2a := HQ.out _ HG1.out.below
      clear HG q1 hpk c20 c84 hw1 hw2
      generalize wr.drewN nq = Wa at *
      obtain ⟨at1, hat1⟩ : ∃ at1, 1 + l + at0 = at1 := ⟨_, rfl⟩
      have hatr1 : 1 + l ≤ at1 ∧ at1 < b := by omega
      rw [hat1]
      clear hat1 hatr
      go_wp2_with (first | (go_at_call 31; fail))
      refine (block_any cf hfk _).mono ?_
      rintro e Wb ⟨rfl, hbb⟩
      have HG2 := Hid.mk' (HG1.out.later hbb)
      clear HG1 q2a hbb
      go_wp2_with (first | (go_at_call 30; fail))
      have hordn : ord.length < n := by have := HO.out; omega
      refine (HG2.out.write (blkF_can hfk) hatr1 hordn).mono ?_
      rintro e Wc ⟨rfl, h5⟩
      clear HG2
      have q2c := HQ.out _ h5.below
      obtain ⟨p10, c10, e10, hI⟩ := h5.ints
      subst e10
      obtain ⟨m, hm⟩ : ∃ m, ord.length = m := ⟨_, rfl⟩
      have HI : Hid (H.IntsAt Wc p10 ord ∧ ord.length = m) := ⟨hI, hm⟩
      rw [hm] at h5 hordn ⊢
      have H5 := Hid.mk' h5
      clear h5 hI hm
      go_wp2
      go_loopw [14] (fun s14 wx => ∃ j : Nat, j ≤ m ∧ s14 = .int .i64 j ∧ wx = Wc ∧ Hid (at1 ∉ ord.take j)) (fun s14 _ => m - (intOf s14).toNat)
      case atStart => exact ⟨0, by omega, rfl, rfl, (by intro q; rw [List.take_zero] at q; exact absurd q List.not_mem_nil : at1 ∉ ord.take 0)⟩
      case round =>
        obtain ⟨j, hj, rfl, rfl, HN⟩ := hrel
        by_cases hj2 : (j : Int) < m
        · obtain ⟨hI, hm⟩ := HI.out
          have hx : ord[j]? = some ord[j] := List.getElem?_eq_getElem (by omega)
          have htk : ord.take (j + 1) = ord.take j ++ [ord[j]] := by rw [List.take_add_one, hx]; rfl
          obtain ⟨b2, o2, rfl, l2, C2⟩ := hI (by omega)
          have qz := C2 j _ hx
          generalize ord[j] = z at hx htk qz
          have HM : Hid (ord.take (j + 1) = ord.take j ++ [z] ∧ ord[j]? = some z) := ⟨htk, hx⟩
          clear hI hm hx htk C2
          by_cases hz : z = at1
          · subst hz
            go_wp2_with (first | (go_at_call 31; fail))
            refine (block_any cf hfk _).mono ?_
            rintro e Wd ⟨rfl, hbd⟩
            have H6 := Hid.mk' (H5.out.later hbd)
            have hfl : (ord.map book).length = m := by rw [List.length_map]; exact HI.out.2
            obtain ⟨q11, c11, e11, ho11, _, _, hc11, _⟩ := blks_at H6.out.owns2 (by omega)
            have HTh := (blks_set H6.out.owns2 ho11 (k := j) (by omega) (blkF cf)).1
            have H7 := Hid.mk' (H6.out.setB ho11 (k := j) (by omega) (blkF cf))
            have HE : Hid (ordV ord z = ord ∧ (ordV ord z).map (fun y => if y = z then blkF cf else book y) = (ord.map book).set j (blkF cf)) := by
              have hmem : z ∈ ord := List.mem_of_getElem? HM.out.2
              have e1 : ordV ord z = ord := by unfold ordV; rw [if_pos hmem]
              have hnd := H5.out.nd
              rw [e1] at hnd
              exact ord_old hnd HM.out.2
            rw [hfl] at e11
            subst e11
            clear H5 H6 hbd
            go_wp2_with (first | (with_reducible refine H.isStore 23 ?_; refine wpList_storeBlk rfl _ _ rfl q11 (j * 1024) rfl (blkF cf) rfl HTh ?_))
            refine ⟨⟨k + 1, ordV ord z, fun y => if y = z then blkF cf else book y, by omega, by go_num, ?_⟩, by simp [intOf]; omega⟩
            refine ⟨?_, fun _ => ?_, ?_⟩
            · rw [HE.out.1]
              have := HO.out
              omega
            · rw [HE.out.1]
              exact fun q => by rw [q] at hfl; simp at hfl; omega
            · have h8 := H7.out
              rw [HE.out.2]
              rw [HE.out.1] at h8 ⊢
              exact h8
          · go_wp2
            refine ⟨⟨j + 1, by omega, by go_num, (by first | trivial | rfl), ?_⟩, by simp [intOf]; omega⟩
            show at1 ∉ ord.take (j + 1)
            rw [HM.out.1]
            intro q
            rcases List.mem_append.1 q with q | q
            · exact HN.out q
            · simp only [List.mem_cons, List.not_mem_nil, or_false] at q
              exact hz q.symm
        · obtain rfl : j = m := by omega
          have hnm : at1 ∉ ord := by
            have q := HN.out
            rw [← HI.out.2, List.take_length] at q
            exact q
          have hfl : (ord.map book).length = j := by rw [List.length_map]; exact HI.out.2
          obtain ⟨v10, Wd, hr1, h6⟩ := H5.out.pushZ (by rw [HI.out.2]; omega) at1 44
          obtain ⟨v11, We, hr2, h7⟩ := h6.pushB (by omega) nought 69
          have q2e := HQ.out We h7.below
          have H7 := Hid.mk' h7
          clear h6 h7 H5
          go_wp2_with (first | (at_builtin; refine wpList_push rfl rfl rfl rfl hr1 ?_) | (with_reducible refine H.isBuild 23 ?_; refine H.wpList_build30w rfl rfl ?_) | refine wpList_exec rfl (exec_slice23 (f := nought) rfl rfl) ?_ | (at_builtin; refine wpList_push rfl rfl rfl rfl hr2 ?_) | (go_at_call 31; fail))
          refine (block_any cf hfk _).mono ?_
          rintro e Wf ⟨rfl, hbd⟩
          have H8 := Hid.mk' (H7.out.later hbd)
          have hfl2 : (ord.map book ++ [nought]).length = j + 1 := by rw [List.length_append, hfl]; rfl
          obtain ⟨q11, c11, e11, ho11, _, _, hc11, _⟩ := blks_at H8.out.owns2 (by omega)
          have HTh := (blks_set H8.out.owns2 ho11 (k := j) (by omega) (blkF cf)).1
          have H9 := Hid.mk' (H8.out.setB ho11 (k := j) (by omega) (blkF cf))
          have HE : Hid (ordV ord at1 = ord ++ [at1] ∧ (ordV ord at1).map (fun y => if y = at1 then blkF cf else book y) = (ord.map book ++ [nought]).set j (blkF cf)) := by
            have q := ord_new (book := book) (f := blkF cf) hnm
            rw [HI.out.2] at q
            exact q
          rw [hfl2] at e11
          subst e11
          clear H7 H8 hbd hr1 hr2
          go_wp2_with (first | (with_reducible refine H.isStore 23 ?_; refine wpList_storeBlk rfl _ _ rfl q11 (j * 1024) rfl (blkF cf) rfl HTh ?_))
          refine ⟨⟨k + 1, ordV ord at1, fun y => if y = at1 then blkF cf else book y, by omega, by go_num, ?_⟩, by simp [intOf]; omega⟩
          refine ⟨?_, fun _ => ?_, ?_⟩
          · rw [HE.out.1, List.length_append]
            have := HO.out
            show ord.length + 1 ≤ k + 1
            omega
          · rw [HE.out.1]
            simp
          · have h8 := H9.out
            rw [HE.out.2]
            rw [HE.out.1] at h8 ⊢
            exact h8
    · obtain rfl : k = n := by omega
      obtain ⟨hok, hon, hG⟩ := HG.out
      have hon := hon (by omega)
      obtain ⟨p10, c10, e10, hI⟩ := hG.ints
      subst e10
      obtain ⟨m, hm⟩ : ∃ m, ord.length = m := ⟨_, rfl⟩
      have HI : Hid (ord.length = m ∧ ord ≠ [] ∧ m ≤ k) := ⟨hm, hon, by omega⟩
      have hmk : m ≤ k ∧ 0 < m := ⟨by omega, by have := List.length_pos_iff.2 hon; omega⟩
      rw [hm] at hG ⊢
      have H1 := Hid.mk' hG.gx
      have HEnc : Hid (∀ V, H.IntsAt V p10 ord → Calls Try.prog 35 #[.agg LA, .agg #[.slice p10 m c10]] V fun e W' => e = .returned (.tuple #[.agg (blk (H.headF ord)), .int .i64 0]) ∧ Below V.heap.size V W') := fun V hV => by
        obtain ⟨o1, o2, q1, _⟩ := H1.out
        rw [← HLA.out, ← hm]
        exact q1.encodes hV
      clear HG hG hok hon hI
      go_wp2_with (first | (go_at_call 32; fail))
      refine (H1.out.call fun ks h => h.ends (refL_of (by rfl) rfl rfl) (by show (0 : Int) < _; omega)).mono ?_
      rintro e Wa ⟨rfl, h2⟩
      have H2 := Hid.mk' h2
      clear h2 H1
      have hu := H2.out.call fun ks h => h.used (chk_of (by rfl) rfl)
      rw [show (endX (grpX b l i k ord)).blocks.length = m from hm] at hu
      go_wp2_with (first | (go_at_call 21; fail))
      refine hu.mono ?_
      rintro e Wb ⟨rfl, h3⟩
      have H3 := Hid.mk' h3
      clear h3 H2 hu
      have hu := H3.out.call fun ks h => h.made
      rw [show (freshT b).made = 0 from rfl] at hu
      go_wp2_with (first | (go_at_call 23; fail))
      refine hu.mono ?_
      rintro e Wc ⟨rfl, h4⟩
      have H4 := Hid.mk' h4
      clear h4 H3 hu
      go_wp2_with (first | (go_at_call 25; fail))
      refine (H4.out.call fun ks h => h.syncAll (refL_of (by rfl) rfl rfl) HI.out.2.1 (rm_fresh b _ (by show 2 * ord.length + 12 ≤ 100; have := HI.out; omega)) (by show (0 : Int) < _; omega) rfl).mono ?_
      rintro e Wd ⟨rfl, h5⟩
      have HC : Hid (claimedV (runV (cmtOps (endX (grpX b l i k ord)) book) (freshT b)) 1 = true ∧ (runV (cmtOps (endX (grpX b l i k ord)) book) (freshT b)).ops = wantAll ord (ord.map book)) := by
        obtain ⟨o1, o2, q1, _⟩ := H4.out
        exact ⟨q1.ran rfl rfl rfl rfl, cmt_want (q1.runs rfl rfl) rfl⟩
      have H5 := Hid.mk' h5
      clear h5 H4
      generalize runV (cmtOps (endX (grpX b l i k ord)) book) (freshT b) = t5 at *
      have hu := H5.out.call (E := .returned (.int .i64 0)) fun ks h => h.used (chk_of HC.out.1 rfl)
      go_wp2_with (first | (go_at_call 21; fail))
      refine hu.mono ?_
      rintro e We ⟨rfl, h6⟩
      generalize ({ forgotL (endX (grpX b l i k ord)) with commits := (endX (grpX b l i k ord)).commits + 1 } : LSt) = x6 at h6
      obtain ⟨o1, o2, q1, q2, q3, _, _⟩ := h6
      have hIe : H.IntsAt We p10 ord := by
        obtain ⟨p', c', e', hI', _⟩ := H.ints_of_row (q1.owns q2)
        injection e' with e1 e2 e3
        subst e1
        exact hI'
      have hrow := q1.obj (List.mem_append.2 (.inr (List.mem_append.2 (.inr (List.mem_cons_self ..)))) : (q8, Obj.cells LA 31) ∈ o1 ++ (o2 ++ [(q8, .cells LA 31)]))
      have HK : Hid (Holds W1.heap.size o1 3 1 (.slice p10 m c10) ord.length (ord.map (Value.int .i64)) ∧ Holds W1.heap.size o2 23 1024 u11 (ord.map book).length (blkCells (ord.map book))) := ⟨q2, q3⟩
      have H6 := Hid.mk' q1
      clear q1 q2 q3 H5 hu
      have hz31 : (Try.prog.info? 31).map (·.size) = some LA.size := by rw [hsz]; exact H.size25L
      go_wp2_with (first | refine wpList_load_row rfl 31 (.tmp 8) rfl q8 rfl 31 LA (0, 0) _ hrow Try.underlying31 rfl hz31 ?_ | (go_at_call 35; fail))
      refine (HEnc.out _ hIe).mono ?_
      rintro e Wf ⟨rfl, hbf⟩
      have h7 := H6.out.later hbf
      clear hrow hIe hbf H6 HEnc
      obtain ⟨HF0, hHF⟩ : ∃ F, H.headF ord = F := ⟨_, rfl⟩
      rw [hHF]
      have h8 := (h7.add (.cells (blk HF0) 23)).add (.cells (recCells ⟨2, 0, nought⟩).toArray 86)
      have H8 := Hid.mk' h8
      have HHF := Hid.mk' hHF
      clear h7 h8 hHF
      have z25 := zero25
      have z86 := zero108
      have hs86 := rec_size ⟨0, 0, nought⟩
      generalize hZ86 : (recCells ⟨0, 0, nought⟩).toArray = Z86 at z86 hs86
      clear hZ86
      go_wp2_with (first | (with_reducible refine H.isStore 23 ?_; refine wpList_store25_new rfl (.tmp 15) (.tmp 148) rfl HF0 _ rfl rfl ?_) | refine wpList_bar rfl rfl ?_ | (with_reducible refine H.isStore 86 ?_; refine wpList_store86_new rfl (.tmp 17) (.tmp 152) rfl ⟨2, 0, nought⟩ _ hs86 (Wf.heap.size + 1) (by simp only [World.alloc, Array.size_push]) rfl rfl ?_))
      have H9 : Hid (∃ q15 q17, Wf.heap.size = q15 ∧ Wf.heap.size + 1 = q17 ∧ LogI W1 ((Wf.alloc (.cells (blk HF0) 23)).alloc (.cells (recCells ⟨2, 0, nought⟩).toArray 86)) g d x6 t5 book ((q17, .cells (recCells ⟨2, 0, nought⟩).toArray 86) :: (q15, .cells (blk HF0) 23) :: (o1 ++ (o2 ++ [(q8, .cells LA 31)])))) := by
        refine ⟨_, _, rfl, rfl, ?_⟩
        have q := H8.out
        rw [show (Wf.alloc (.cells (blk HF0) 23)).heap.size = Wf.heap.size + 1 by simp only [World.alloc, Array.size_push]] at q
        exact q
      obtain ⟨q15, q17, e15, e17, h9⟩ := H9.out
      have H10 := Hid.mk' (HX.start h9)
      clear H8 H9 h9 z25 z86 hs86
      rw [e17]
      rw [e15]
      clear e15 e17
      generalize (Wf.alloc (.cells (blk HF0) 23)).alloc (.cells (recCells ⟨2, 0, nought⟩).toArray 86) = Wg at *
      obtain ⟨q11, c11, e11, ho11, hB11, _, hc11, _⟩ := blks_at (HK.out.2.1 Wg fun p hp => H10.out.obj (List.mem_cons_of_mem _ (List.mem_cons_of_mem _ (List.mem_append.2 (.inr (List.mem_append.2 (.inl hp))))))) (by rw [List.length_map]; have := HI.out.1; omega)
      have hfl : (ord.map book).length = m := by rw [List.length_map]; exact HI.out.1
      have HRd : Hid (∀ W v18 want, HX W1 W g d x6 t5 book v18 want ((q17, .cells (recCells ⟨2, 0, nought⟩).toArray 86) :: (q15, .cells (blk HF0) 23) :: (o1 ++ (o2 ++ [(q8, .cells LA 31)]))) →
          W.cell? ⟨q8, 3, none⟩ = some (.int .i64 1) ∧ (∀ j f, (ord.map book)[j]? = some f → BlkAt W q11 (j * 1024) f) ∧ H.IntsAt W p10 ord ∧ W.heap[q15]? = some (.cells (blk HF0) 23) ∧ W.heap[q17]? = some (.cells (recCells ⟨2, 0, nought⟩).toArray 86)) := fun W v18 want hX => by
        have hk : ∀ p ∈ o1 ++ (o2 ++ [(q8, Obj.cells LA 31)]), W.heap[p.1]? = some p.2 := fun p hp => hX.obj (List.mem_cons_of_mem _ (List.mem_cons_of_mem _ hp))
        refine ⟨?_, fun j f hf => ?_, ?_, hX.obj (List.mem_cons_of_mem _ (List.mem_cons_self ..)), hX.obj (List.mem_cons_self ..)⟩
        · have hr := hk (q8, .cells LA 31) (List.mem_append.2 (.inr (List.mem_append.2 (.inr (List.mem_cons_self ..)))))
          rw [← HLA.out] at hr
          exact Joins.cell_of_block hr 3
        · obtain ⟨q', c', e', ho', _, _, _, hB⟩ := blks_at (HK.out.2.1 W fun p hp => hk p (List.mem_append.2 (.inr (List.mem_append.2 (.inl hp))))) (by rw [hfl]; omega)
          rw [ho'] at ho11
          injection ho11 with ho11
          subst ho11
          exact hB j f hf
        · obtain ⟨p', c', e', hI', _⟩ := H.ints_of_row (HK.out.1.1 W fun p hp => hk p (List.mem_append.2 (.inl hp)))
          injection e' with e1 e2 e3
          subst e1
          exact hI'
      generalize hKS : ((q17, Obj.cells (recCells ⟨2, 0, nought⟩).toArray 86) :: (q15, .cells (blk HF0) 23) :: (o1 ++ (o2 ++ [(q8, .cells LA 31)]))) = KS at *
      rw [hfl] at e11
      subst e11
      clear hKS HK ho11 hB11 hfl
      obtain ⟨q10, o10, e10, _, _⟩ := (HRd.out _ _ _ H10.out).2.2.1 (by have := HI.out.1; omega)
      subst e10
      go_wp2
      go_loopw [18, 19] (fun s18 s19 wx => ∃ j : Nat, j ≤ m ∧ s19 = .int .i64 j ∧ Hid (HX W1 wx g d x6 t5 book s18 (wantA (ord.map book) j) KS)) (fun _ s19 _ => m - (intOf s19).toNat)
      case atStart => exact ⟨0, by omega, rfl, H10.out⟩
      case round =>
        obtain ⟨j, hj, rfl, HJ⟩ := hrel
        clear H10
        by_cases hj2 : (j : Int) < m
        · obtain ⟨c83, hBk, _, _, _⟩ := HRd.out _ _ _ HJ.out
          have hfj : (ord.map book)[j]? = some (book (ord[j]'(by have := HI.out.1; omega))) := by
            rw [List.getElem?_map, List.getElem?_eq_getElem (by have := HI.out.1; omega)]
            rfl
          generalize book (ord[j]'(by have := HI.out.1; omega)) = f at hfj
          have hbj := hBk j f hfj
          obtain ⟨v18, Wh, hr, hX⟩ := (HJ.out.later (H.drew_below wr)).push [⟨1, 2 + (j : Int), f⟩] ⟨by simp, by simp⟩ (by unfold wantA; rw [List.length_map, List.length_range]; omega) 37
          rw [← wantA_succ hfj] at hX
          clear hBk
          have hw1 : IntKind.i64.wrap (1 + 1) = 2 := by decide
          have hw2 : IntKind.i64.wrap (2 + (j : Int)) = 2 + (j : Int) := by rw [IntKind.wrap_i64]; omega
          rw [opCells_one] at hr
          have HS : Hid (∀ W v18 want, HX W1 W g d x6 t5 book v18 want KS → W.cell? ⟨q8, 3, none⟩ = some (.int .i64 1) ∧ BlkAt W q11 (j * 1024) f) := fun W v18 want hX => ⟨(HRd.out W v18 want hX).1, (HRd.out W v18 want hX).2.1 j f hfj⟩
          clear hbj c83
          go_wp2
          refine wp_region_ord (S := fun u => u.cell? ⟨q8, 3, none⟩ = some (.int .i64 1) ∧ BlkAt u q11 (j * 1024) f) [(0, true), (1, true), (2, true), (3, true), (4, true), (5, true), (6, true), (7, true), (8, true), (9, true), (10, true), (11, false), (12, false), (13, true)]
            (by kernel_rfl) rfl (by kernel_rfl) (fun d _ _ _ _ h => by cases d <;> exact h) (HS.out _ _ _ (HJ.out.later (H.drew_below wr))) ?_
          simp only [inOrd, List.getElem?_cons_zero, List.getElem?_cons_succ]
          refine wpOrd_move rfl _ rfl ?_
          simp only [Act.put, List.setIfInBounds_toArray, List.set_cons_succ, List.set_cons_zero]
          refine wpOrd_yield (v := .pointer (some ⟨q8, 3, none⟩)) rfl (fun u _ => by go_simp) ?_
          simp only [Act.put, List.setIfInBounds_toArray, List.set_cons_succ, List.set_cons_zero]
          refine wpOrd_yield (v := .int .i64 1) rfl (fun u hu => exec_ld3 rfl rfl hu.1) ?_
          simp only [Act.put, List.setIfInBounds_toArray, List.set_cons_succ, List.set_cons_zero]
          refine wpOrd_yield (v := .int .i64 2) rfl (fun u _ => by go_simp; decide) ?_
          simp only [Act.put, List.setIfInBounds_toArray, List.set_cons_succ, List.set_cons_zero]
          refine wpOrd_move rfl _ rfl ?_
          simp only [Act.put, List.setIfInBounds_toArray, List.set_cons_succ, List.set_cons_zero]
          refine wpOrd_yield (v := .int .i64 (2 + (j : Int))) rfl (fun u _ => by go_simp) ?_
          simp only [Act.put, List.setIfInBounds_toArray, List.set_cons_succ, List.set_cons_zero]
          refine wpOrd_move rfl _ rfl ?_
          simp only [Act.put, List.setIfInBounds_toArray, List.set_cons_succ, List.set_cons_zero]
          refine wpOrd_move rfl _ rfl ?_
          simp only [Act.put, List.setIfInBounds_toArray, List.set_cons_succ, List.set_cons_zero]
          refine wpOrd_yield (v := .pointer (some ⟨q11, j * 1024, none⟩)) rfl (fun u _ => exec_ix69 rfl rfl rfl (by omega)) ?_
          simp only [Act.put, List.setIfInBounds_toArray, List.set_cons_succ, List.set_cons_zero]
          refine wpOrd_yield (v := .agg (blk f)) rfl (fun u hu => exec_ldM rfl rfl hu.2) ?_
          simp only [Act.put, List.setIfInBounds_toArray, List.set_cons_succ, List.set_cons_zero]
          refine wpOrd_yield (v := .agg (recCells ⟨1, 2 + (j : Int), f⟩).toArray) rfl (fun u _ => exec_build86 rfl rfl rfl) ?_
          simp only [Act.put, List.setIfInBounds_toArray, List.set_cons_succ, List.set_cons_zero]
          refine wpOrd_val rfl (exec_slice86 (r := ⟨1, 2 + (j : Int), f⟩) rfl rfl) (HS.out _ _ _ (HJ.out.later (below_next (H.drew_below wr) (below_new _ _)))) ?_
          simp only [Act.put, List.setIfInBounds_toArray, List.set_cons_succ, List.set_cons_zero]
          refine wpOrd_val rfl (exec_push rfl rfl rfl hr) (HS.out _ _ _ hX) ?_
          simp only [Act.put, List.setIfInBounds_toArray, List.set_cons_succ, List.set_cons_zero]
          refine wpOrd_yield (v := v18) rfl (fun u _ => by go_simp) ?_
          refine wpOrd_nil ?_
          simp only [Act.put, List.setIfInBounds_toArray, List.set_cons_succ, List.set_cons_zero]
          have HX1 := Hid.mk' hX
          clear hX hr HJ
          go_wp2
          exact ⟨⟨j + 1, by omega, by go_num, HX1.out⟩, by simp [intOf]; omega⟩
        · obtain rfl : j = m := by omega
          obtain ⟨c83, _, _, h15, h17⟩ := HRd.out _ _ _ HJ.out
          obtain ⟨v18, Wi, hr, hX⟩ := HJ.out.push [⟨2, 0, nought⟩, ⟨1, 1, HF0⟩, ⟨2, 0, nought⟩] ⟨by simp, by simp⟩ (by unfold wantA; rw [List.length_map, List.length_range]; omega) 37
          have hz86 : (Try.prog.info? 86).map (·.size) = some (recCells ⟨2, 0, nought⟩).toArray.size := by rw [rec_size]; exact size108
          obtain ⟨pre, hpre⟩ : ∃ pre, wantA (ord.map book) j ++ [⟨2, 0, nought⟩, ⟨1, 1, HF0⟩, ⟨2, 0, nought⟩] = pre := ⟨_, rfl⟩
          rw [hpre] at hX
          have HP := Hid.mk' hpre
          have HX2 := Hid.mk' hX
          clear hX hpre
          go_wp2_with (first | (with_reducible refine H.isLoad 86 ?_; refine wpList_load_row rfl 86 (.tmp 17) rfl q17 rfl 86 (recCells ⟨2, 0, nought⟩).toArray (0, 0) _ h17 Try.underlying86 rfl hz86 ?_) | (with_reducible refine H.isLoad 23 ?_; refine wpList_load25 rfl (.tmp 15) rfl q15 rfl HF0 h15 ?_) | (with_reducible refine H.isBuild 86 ?_; refine wpList_exec rfl (exec_build86 (k := 1) (p := 1) (f := HF0) rfl rfl rfl) ?_) | refine wpList_exec rfl (exec_slice86_3 (r0 := ⟨2, 0, nought⟩) (r1 := ⟨1, 1, HF0⟩) (r2 := ⟨2, 0, nought⟩) rfl rfl rfl rfl) ?_ | (at_builtin; refine wpList_push rfl rfl rfl rfl hr ?_))
          clear hr h15 h17 c83
          go_loopw [18, 20] (fun s18 s20 wx => ∃ i4 : Nat, i4 ≤ j ∧ s20 = .int .i64 i4 ∧ Hid (HX W1 wx g d x6 t5 book s18 (pre ++ wantC ord (ord.map book) i4) KS)) (fun _ s20 _ => j - (intOf s20).toNat)
          case atStart => exact ⟨0, by omega, rfl, (by rw [show wantC ord (ord.map book) 0 = [] from rfl, List.append_nil]; exact HX2.out : HX W1 Wi g d x6 t5 book v18 (pre ++ wantC ord (ord.map book) 0) KS)⟩
          case round =>
            obtain ⟨i4, hi4, rfl, HJ4⟩ := hrel
            clear HX2
            by_cases hi42 : (i4 : Int) < j
            · have hoi : ord[i4]? = some (ord[i4]'(by have := HI.out.1; omega)) := List.getElem?_eq_getElem _
              have hfj : (ord.map book)[i4]? = some (book (ord[i4]'(by have := HI.out.1; omega))) := by rw [List.getElem?_map, hoi]; rfl
              generalize (ord[i4]'(by have := HI.out.1; omega)) = ka at hoi hfj
              generalize book ka = f at hfj
              have hpl : (pre ++ wantC ord (ord.map book) i4).length ≤ 1000 := by
                rw [← HP.out]
                unfold wantA wantC
                simp only [List.length_append, List.length_map, List.length_range, List.length_cons, List.length_nil]
                omega
              obtain ⟨v18, Wh, hr, hX⟩ := (HJ4.out.later (H.drew_below wr)).push [⟨1, ka, f⟩] ⟨by simp, by simp⟩ hpl 37
              rw [List.append_assoc, ← wantC_succ hoi hfj] at hX
              rw [opCells_one] at hr
              have HS : Hid (∀ W v18 want, HX W1 W g d x6 t5 book v18 want KS → W.cell? ⟨q10, o10 + i4, none⟩ = some (.int .i64 ka) ∧ BlkAt W q11 (i4 * 1024) f) := fun W v18 want hX => by
                obtain ⟨_, h2, h3, _⟩ := HRd.out W v18 want hX
                obtain ⟨b3, o3, e3, _, C3⟩ := h3 (by have := HI.out.1; omega)
                injection e3 with e3
                injection e3 with e3 e4
                subst e3 e4
                exact ⟨C3 i4 ka hoi, h2 i4 f hfj⟩
              clear hpl
              go_wp2
              refine wp_region_ord (S := fun u => u.cell? ⟨q10, o10 + i4, none⟩ = some (.int .i64 ka) ∧ BlkAt u q11 (i4 * 1024) f) [(0, true), (1, true), (2, true), (3, true), (4, true), (5, true), (6, true), (7, true), (8, true), (9, true), (10, false), (11, false), (12, true)]
                (by kernel_rfl) rfl (by kernel_rfl) (fun d _ _ _ _ h => by cases d <;> exact h) (HS.out _ _ _ (HJ4.out.later (H.drew_below wr))) ?_
              simp only [inOrd, List.getElem?_cons_zero, List.getElem?_cons_succ]
              refine wpOrd_move rfl _ rfl ?_
              simp only [Act.put, List.setIfInBounds_toArray, List.set_cons_succ, List.set_cons_zero]
              refine wpOrd_move rfl _ rfl ?_
              simp only [Act.put, List.setIfInBounds_toArray, List.set_cons_succ, List.set_cons_zero]
              refine wpOrd_move rfl _ rfl ?_
              simp only [Act.put, List.setIfInBounds_toArray, List.set_cons_succ, List.set_cons_zero]
              refine wpOrd_yield (v := .pointer (some ⟨q10, o10 + i4, none⟩)) rfl (fun u _ => exec_ix44 rfl rfl rfl (by omega)) ?_
              simp only [Act.put, List.setIfInBounds_toArray, List.set_cons_succ, List.set_cons_zero]
              refine wpOrd_yield (v := .int .i64 ka) rfl (fun u hu => exec_ld3 rfl rfl hu.1) ?_
              simp only [Act.put, List.setIfInBounds_toArray, List.set_cons_succ, List.set_cons_zero]
              refine wpOrd_move rfl _ rfl ?_
              simp only [Act.put, List.setIfInBounds_toArray, List.set_cons_succ, List.set_cons_zero]
              refine wpOrd_move rfl _ rfl ?_
              simp only [Act.put, List.setIfInBounds_toArray, List.set_cons_succ, List.set_cons_zero]
              refine wpOrd_yield (v := .pointer (some ⟨q11, i4 * 1024, none⟩)) rfl (fun u _ => exec_ix69 rfl rfl rfl (by omega)) ?_
              simp only [Act.put, List.setIfInBounds_toArray, List.set_cons_succ, List.set_cons_zero]
              refine wpOrd_yield (v := .agg (blk f)) rfl (fun u hu => exec_ldM rfl rfl hu.2) ?_
              simp only [Act.put, List.setIfInBounds_toArray, List.set_cons_succ, List.set_cons_zero]
              refine wpOrd_yield (v := .agg (recCells ⟨1, ka, f⟩).toArray) rfl (fun u _ => exec_build86 rfl rfl rfl) ?_
              simp only [Act.put, List.setIfInBounds_toArray, List.set_cons_succ, List.set_cons_zero]
              refine wpOrd_val rfl (exec_slice86 (r := ⟨1, ka, f⟩) rfl rfl) (HS.out _ _ _ (HJ4.out.later (below_next (H.drew_below wr) (below_new _ _)))) ?_
              simp only [Act.put, List.setIfInBounds_toArray, List.set_cons_succ, List.set_cons_zero]
              refine wpOrd_val rfl (exec_push rfl rfl rfl hr) (HS.out _ _ _ hX) ?_
              simp only [Act.put, List.setIfInBounds_toArray, List.set_cons_succ, List.set_cons_zero]
              refine wpOrd_yield (v := v18) rfl (fun u _ => by go_simp) ?_
              refine wpOrd_nil ?_
              simp only [Act.put, List.setIfInBounds_toArray, List.set_cons_succ, List.set_cons_zero]
              have HX1 := Hid.mk' hX
              clear hX hr HJ4
              go_wp2
              exact ⟨⟨i4 + 1, by omega, by go_num, HX1.out⟩, by simp [intOf]; omega⟩
            · obtain rfl : i4 = j := by omega
              obtain ⟨c83, _, _, _, h17⟩ := HRd.out _ _ _ HJ4.out
              have hpl : (pre ++ wantC ord (ord.map book) i4).length ≤ 1000 := by
                rw [← HP.out]
                unfold wantA wantC
                simp only [List.length_append, List.length_map, List.length_range, List.length_cons, List.length_nil]
                omega
              obtain ⟨v18, Wi, hr, hX⟩ := HJ4.out.push [⟨2, 0, nought⟩, ⟨1, 1, nought⟩, ⟨2, 0, nought⟩] ⟨by simp, by simp⟩ hpl 37
              have hw : t5.ops = (pre ++ wantC ord (ord.map book) i4) ++ [⟨2, 0, nought⟩, ⟨1, 1, nought⟩, ⟨2, 0, nought⟩] := by
                rw [HC.out.2]
                unfold wantAll
                rw [HI.out.1, HHF.out, ← HP.out]
              have hol : t5.ops.length < 68719476736 := by
                rw [hw, List.length_append]
                have : ([⟨2, 0, nought⟩, ⟨1, 1, nought⟩, ⟨2, 0, nought⟩] : List Rec).length = 3 := rfl
                omega
              rw [← hw] at hX
              obtain ⟨p18, c18, e18, hops⟩ := hX.ops
              subst e18
              have hbi := hX.below
              have hhist : Calls Try.prog 37 #[ptr d] Wi fun e W' => e = .returned (.slice (some ⟨Wi.heap.size, 0, none⟩) t5.ops.length t5.ops.length) ∧ OpsAt W' (some ⟨Wi.heap.size, 0, none⟩) t5.ops ∧ Below Wi.heap.size Wi W' := by
                obtain ⟨o3, q1, _⟩ := hX
                exact q1.history hol
              have HH := Hid.mk' hhist
              have HO := Hid.mk' hops
              have HBi := Hid.mk' hbi
              clear hX hw hpl hhist hops hbi HJ4
              unfold ptr at HH
              go_wp2_with (first | (with_reducible refine H.isLoad 86 ?_; refine wpList_load_row rfl 86 (.tmp 17) rfl q17 rfl 86 (recCells ⟨2, 0, nought⟩).toArray (0, 0) _ h17 Try.underlying86 rfl hz86 ?_) | (with_reducible refine H.isBuild 86 ?_; refine wpList_exec rfl (exec_build86w (k := 1) (p := 1) rfl rfl) ?_) | refine wpList_exec rfl (exec_slice86_3 (r0 := ⟨2, 0, nought⟩) (r1 := ⟨1, 1, nought⟩) (r2 := ⟨2, 0, nought⟩) rfl rfl rfl rfl) ?_ | (at_builtin; refine wpList_push rfl rfl rfl rfl hr ?_) | (go_at_call 37; fail))
              refine HH.out.mono ?_
              rintro e Wj ⟨rfl, hO, hbj⟩
              have HSm := Hid.mk' (sameOps_any t5.ops t5.ops (some ⟨Wi.heap.size, 0, none⟩) p18 t5.ops.length c18 Wj (by omega) (by omega) hO (HO.out.later hbj))
              have HBj : Hid (Below w.heap.size w Wj) := below_next (below_next HB1.out HBi.out) hbj
              clear hO hbj HH HO HBi hr h17 c83
              generalize t5.ops = lops at *
              go_wp2_with (first | (go_at_call 36; fail))
              refine HSm.out.mono ?_
              rintro e Wk ⟨rfl, hbk⟩
              have hrs := recsB_self lops
              have HBk : Hid (Below w.heap.size w Wk) := below_next HBj.out hbk
              clear hbk HSm HBj
              go_wp2
              go_ret
              exact ⟨rfl, HBk.out⟩
end Go.Proofs.Ytahaiciciljijaa
