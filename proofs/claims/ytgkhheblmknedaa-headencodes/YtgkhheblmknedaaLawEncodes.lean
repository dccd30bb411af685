/- HeadEncodes' walk; for every geometry, every number and every list. -/
import Derived.Test.YtgkhheblmknedaaEncAny
import Derived.Test.YtgkhheblmknedaaLayout
import Derived.Test.YtgkhheblmknedaaLists
import Derived.Test.YtgkhheblmknedaaBackMath
import Derived.Test.YtgkhheblmknedaaPlan
import Derived.Deep.Cut
import Derived.Deep.CutRange
namespace Go.Proofs.Ytgkhheblmknedaa
open Go.RowKit
theorem OwnZ.form {w : World} {B : Nat} {v : Value} {zs : List Int} (h : OwnZ w B v zs) (h0 : 0 < zs.length) : ∃ g c, v = .slice (some ⟨g, 0, none⟩) zs.length c ∧ B ≤ g ∧ g < w.heap.size ∧ zs.length ≤ c := by
  rcases h.2 with ⟨_, h2⟩ | ⟨g, cap, cur, rfl, hB, hg, hc, _⟩
  · omega
  · exact ⟨g, cap, rfl, hB, (Array.getElem?_eq_some_iff.1 hg).1, hc⟩
theorem OwnZ.set {w : World} {B g c n : Nat} {zs : List Int} (h : OwnZ w B (.slice (some ⟨g, 0, none⟩) n c) zs) (hn : zs.length = n) (j : Nat) (x : Int) : OwnZ (w.setCell ⟨g, j, none⟩ (.int .i64 x)) B (.slice (some ⟨g, 0, none⟩) n c) (zs.set j x) := by
  subst hn
  have := (World.ownsRow.stored h j (.int .i64 x)).1
  unfold OwnZ
  rw [List.length_set, List.map_set]
  exact this
theorem OwnZ.cell {w : World} {B g c n : Nat} {zs : List Int} (h : OwnZ w B (.slice (some ⟨g, 0, none⟩) n c) zs) (hn : zs.length = n) (j : Nat) (hj : j < n) : ∃ v, w.cell? ⟨g, j, none⟩ = some v ∧ w.frozen? ⟨g, j, none⟩ = false := by
  subst hn
  refine ⟨.int .i64 zs[j], (World.ownsRow.cellAt h j (by omega)).trans ?_, World.ownsRow.frozenAt h j⟩
  rw [List.getElem?_map, List.getElem?_eq_getElem hj]
  rfl
theorem OwnZ.ints' {w : World} {B g c n : Nat} {zs : List Int} (h : OwnZ w B (.slice (some ⟨g, 0, none⟩) n c) zs) : IntsAt w (some ⟨g, 0, none⟩) zs := by
  obtain ⟨p, c', e, hi, _⟩ := h.ints
  injection e with e1
  rw [e1]
  exact hi
def revK (zs : List Int) (k : Nat) : List Int := zs.reverse.take k ++ zs.drop k
theorem revK_len (zs : List Int) (k : Nat) (hk : k ≤ zs.length) : (revK zs k).length = zs.length := by
  unfold revK
  rw [List.length_append, List.length_take, List.length_drop, List.length_reverse]
  omega
theorem revK_zero (zs : List Int) : revK zs 0 = zs := by simp [revK]
theorem revK_all (zs : List Int) : revK zs zs.length = zs.reverse := by
  unfold revK
  rw [List.drop_length, List.append_nil, List.take_of_length_le (by simp)]
theorem revK_next (zs M : List Int) (k : Nat) (hk : k < zs.length) (x : Int) (hx : zs.reverse[k]? = some x) : (revK zs k ++ M).set k x = revK zs (k + 1) ++ M := by
  have h1 : (zs.reverse.take k).length = k := by rw [List.length_take, List.length_reverse]; omega
  have h2 : zs.drop k = zs[k] :: zs.drop (k + 1) := List.drop_eq_getElem_cons hk
  have h3 : zs.reverse.take (k + 1) = zs.reverse.take k ++ [x] := by rw [List.take_add_one, hx]; rfl
  unfold revK
  rw [h3, h2, List.append_assoc, List.set_append_right _ _ (by omega), h1, Nat.sub_self, List.cons_append, List.set_cons_zero]
  simp only [List.append_assoc, List.cons_append, List.nil_append]
theorem wfI_rev {zs : List Int} (h : WfI zs) : WfI zs.reverse := fun t ht => h t (by simpa using ht)
set_option maxRecDepth 20000 in
set_option maxHeartbeats 4000000 in
theorem law_encodes {w : World} (b l i : Int) (hb : I64 b) (_ : I64 l) (_ : I64 i) (turn : Int) (_ : (Lit.int .i64 turn).wf = true) (zs : List Int) (p : Option Addr) (cap : Nat) (hlen : 8 * zs.length ≤ 140737488351232) (hzs : IntsAt w p zs) (hwf : WfI zs) (hcap : p = none → cap = 0) :
    Calls Try.prog 3 #[geoV b l i, .int .i64 turn, .slice p zs.length cap] w fun e W => e = .returned (.bool true) ∧ Below w.heap.size w W := by
  have hLa := fun W => layout_any b l i turn W hb
  have hLe := fun W (h : IntsAt W p zs) => lent_ints zs p cap hcap W hlen h
  obtain ⟨n, hn⟩ : ∃ n, zs.length = n := ⟨_, rfl⟩
  have hKe := fun W q c (h : IntsAt W p zs) (hF : IntsAt W q (zs ++ marks 7 0 6)) => kept_ints zs p q cap c (n + 6) (by rw [hn]) hcap W hlen h hF
  rw [hn] at hlen hLe hKe ⊢
  have HI : Hid (IntsAt w p zs) := hzs
  have HN : Hid (zs.length = n ∧ WfI zs) := ⟨hn, hwf⟩
  have HLe : Hid _ := hLe
  have HKe : Hid _ := hKe
  have z25 := zero25
  clear hzs hn hwf hLe hKe hb
  unfold geoV at *
  go_enter Try.func3, Try.ntmps3
  go_wp2_with (first | (go_at_call 8; fail))
  refine (hLa _).mono ?_
  rintro e W1 ⟨x0, x1, x2, x3, x4, x5, x6, x7, x8, rfl, hx0, hb1⟩
  have hE := fun (ts : List Int) q c W (h : IntsAt W q ts) (hl : ts.length < 9223372036854775807) (hw : WfI ts) => enc_any x0 x1 x2 x3 x4 x5 x6 x7 x8 ts q c W hx0 hl h hw
  have hR := fun (ts : List Int) q c W (h : IntsAt W q ts) (hl : ts.length < 9223372036854775807) => refEnc_any x0 x1 x2 x3 x4 x5 x6 x7 x8 ts q c W hl h
  have hsz : (lay9 x0 x1 x2 x3 x4 x5 x6 x7 x8).size = 9 := rfl
  have h1 := lay_one x0 x1 x2 x3 x4 x5 x6 x7 x8
  generalize encB x0 x1 x2 x3 x4 x5 x6 x7 x8 = eB at *
  generalize encN x0 x1 x2 x3 x4 x5 x6 x7 x8 = eN at *
  generalize lay9 x0 x1 x2 x3 x4 x5 x6 x7 x8 = L at *
  have HE : Hid _ := hE
  have HR : Hid _ := hR
  have HB1 : Hid (Below w.heap.size w (W1.alloc (.cells L 26))) := bel_al (below_next (below_new _ _) hb1) _
  have hL1 := heap_alloc_new W1 (.cells L 26)
  clear hb1 hLa hE hR hx0
  go_wp2_with (first | (with_reducible refine isStore 26 ?_; refine wpList_storeL_new rfl _ _ rfl _ _ hsz rfl h1 _ rfl rfl rfl ?_) | (go_at_call 9; fail))
  generalize W1.alloc (.cells L 26) = X1 at *
  generalize W1.heap.size = gL at *
  refine (HLe.out _ (HI.out.later HB1.out)).mono ?_
  rintro e W2 ⟨v, rfl, hown, hb2⟩
  obtain ⟨gF, cF, rfl, hBF, hFs, hcF⟩ := hown.form (by rw [List.length_append, marks_len]; omega)
  have e6 : (zs ++ marks 7 0 6).length = n + 6 := by rw [List.length_append, marks_len, HN.out.1]
  have HO2 : Hid (OwnZ W2 X1.heap.size (.slice (some ⟨gF, 0, none⟩) (n + 6) cF) (zs ++ marks 7 0 6)) := e6 ▸ hown
  rw [e6] at hcF ⊢
  clear e6
  have hgLs : gL < X1.heap.size := (Array.getElem?_eq_some_iff.1 hL1).1
  have hL2 := heap_kept hL1 hb2
  have HB2 : Hid (Below w.heap.size w W2) := below_next HB1.out hb2
  have hwF : w.heap.size ≤ gF := Nat.le_trans HB1.out.size hBF
  have hLF : gL ≠ gF := by omega
  clear hown hb2 hL1 HB1 HLe
  go_wp2_with (first | (with_reducible refine isLoad 26 ?_; refine wpList_loadL rfl _ rfl _ rfl _ hsz hL2 ?_) | (go_at_call 10; fail))
  have hlz : zs.length < 9223372036854775807 := by rw [HN.out.1]; omega
  have hIl : IntsAt W2 (some ⟨gF, 0, none⟩) zs := by
    have := ints_pre HO2.out.ints' n
    rwa [List.take_append_of_le_length (by rw [HN.out.1]; exact Nat.le_refl _), List.take_of_length_le (by rw [HN.out.1]; exact Nat.le_refl _)] at this
  have HIl : Hid (IntsAt W2 (some ⟨gF, 0, none⟩) zs) := hIl
  clear hIl
  have hRz := fun W (h : IntsAt W p zs) => HR.out zs p cap W h hlz
  have hEz := fun W (h : IntsAt W (some ⟨gF, 0, none⟩) zs) => HE.out zs (some ⟨gF, 0, none⟩) cF W h hlz HN.out.2
  rw [HN.out.1] at hRz hEz
  have HRz : Hid _ := hRz
  have HEz : Hid _ := hEz
  clear hRz hEz hlz
  generalize eB zs = B1 at HRz HEz
  generalize eN zs = E1 at HRz HEz
  refine (HRz.out _ (HI.out.later HB2.out)).mono ?_
  rintro e W3 ⟨rfl, hb3⟩
  have hL3 := heap_kept (heap_kept hL2 hb3) (below_new W3 (.cells (blk B1) 30))
  have hB3 := heap_alloc_new W3 (.cells (blk B1) 30)
  have hO3 : Hid (OwnZ (W3.alloc (.cells (blk B1) 30)) X1.heap.size (.slice (some ⟨gF, 0, none⟩) (n + 6) cF) (zs ++ marks 7 0 6)) := (HO2.out.later hb3).later (below_new _ _)
  have HI3 : Hid (IntsAt (W3.alloc (.cells (blk B1) 30)) (some ⟨gF, 0, none⟩) zs) := (HIl.out.later hb3).later (below_new _ _)
  have HB3 : Hid (Below w.heap.size w (W3.alloc (.cells (blk B1) 30))) := bel_al (below_next HB2.out hb3) _
  have hgF3 : gF < W3.heap.size := Nat.lt_of_lt_of_le hFs hb3.size
  clear hb3 hL2 HO2 HIl HB2 HRz
  go_wp2_with (first | (with_reducible refine isStore 30 ?_; refine wpList_store25_new rfl _ _ rfl _ _ rfl rfl ?_) | (with_reducible refine isLoad 26 ?_; refine wpList_loadL rfl _ rfl _ rfl _ hsz hL3 ?_) | (go_at_call 11; fail))
  generalize W3.alloc (.cells (blk B1) 30) = X3 at *
  generalize W3.heap.size = g10 at *
  refine (HEz.out _ HI3.out).mono ?_
  rintro e W4 ⟨rfl, hb4⟩
  have hbb := below_new W4 (.cells (blk B1) 30)
  have hL4 := heap_kept (heap_kept hL3 hb4) hbb
  have hA4 := heap_kept (heap_kept hB3 hb4) hbb
  have hB4 := heap_alloc_new W4 (.cells (blk B1) 30)
  have HO4 : Hid (OwnZ (W4.alloc (.cells (blk B1) 30)) X1.heap.size (.slice (some ⟨gF, 0, none⟩) (n + 6) cF) (zs ++ marks 7 0 6)) := (hO3.out.later hb4).later hbb
  have HB4 : Hid (Below w.heap.size w (W4.alloc (.cells (blk B1) 30))) := bel_al (below_next HB3.out hb4) _
  clear hb4 hbb hL3 hB3 hO3 HI3 HB3 HEz
  go_wp2_with (first | (with_reducible refine isStore 30 ?_; refine wpList_store25_new rfl _ _ rfl _ _ rfl rfl ?_) | (with_reducible refine isLoad 30 ?_; refine wpList_load30w rfl (.tmp 12) rfl _ rfl _ hB4 ?_) | (with_reducible refine isLoad 30 ?_; refine wpList_load30w rfl (.tmp 10) rfl _ rfl _ hA4 ?_) | (with_reducible refine isEq 30 30 ?_; refine wpList_neq30 rfl _ _ rfl B1 B1 true rfl rfl (sameB_self _) ?_) | (go_at_call 12; fail))
  generalize W4.alloc (.cells (blk B1) 30) = X4 at *
  refine (HKe.out _ _ _ (HI.out.later HB4.out) HO4.out.ints').mono ?_
  rintro e W5 ⟨rfl, hb5⟩
  have hL5 := heap_kept hL4 hb5
  have HO5 : Hid (OwnZ W5 X1.heap.size (.slice (some ⟨gF, 0, none⟩) (n + 6) cF) (revK zs 0 ++ marks 7 0 6)) := by rw [revK_zero]; exact HO4.out.later hb5
  have HB5 : Hid (Below w.heap.size w W5) := below_next HB4.out hb5
  clear hb5 hL4 hA4 hB4 HO4 HB4 HKe hgF3 hFs
  go_wp2
  go_loopw [14] (fun s14 wx => ∃ k : Nat, k ≤ n ∧ s14 = .int .i64 k ∧ Hid (OwnZ wx X1.heap.size (.slice (some ⟨gF, 0, none⟩) (n + 6) cF) (revK zs k ++ marks 7 0 6)) ∧ Hid (wx.heap[gL]? = some (.cells L 26)) ∧ Hid (Below w.heap.size w wx)) (fun s14 _ => n - (intOf s14).toNat)
  case atStart => exact ⟨0, by omega, rfl, HO5.out, hL5, HB5.out⟩
  case round =>
    obtain ⟨k, hk, rfl, HO, HLr, HB⟩ := hrel
    clear HO5 hL5 HB5
    by_cases hk2 : (k : Int) < n
    · have hn := HN.out.1
      have hk3 : k < zs.length := by omega
      obtain ⟨x, hx⟩ : ∃ x, zs.reverse[k]? = some x := ⟨_, List.getElem?_eq_getElem (by rw [List.length_reverse]; exact hk3)⟩
      have hx2 : zs[n - 1 - k]? = some x := by
        rw [List.getElem?_reverse hk3, hn] at hx
        exact hx
      obtain ⟨b1, o1, hp1, l1, C1⟩ := HI.out (by omega)
      have q1 : wr.cell? ⟨b1, o1 + (n - 1 - k), none⟩ = some (.int .i64 x) := (HB.out.cell (p := ⟨b1, o1 + (n - 1 - k), none⟩) l1).trans (C1 _ x hx2)
      have hlr : (revK zs k ++ marks 7 0 6).length = n + 6 := by rw [List.length_append, marks_len, revK_len _ _ (by omega), hn]
      obtain ⟨v0, q2, q3⟩ := HO.out.cell hlr k (by omega)
      have HO2 : Hid (OwnZ (wr.setCell ⟨gF, k, none⟩ (.int .i64 x)) X1.heap.size (.slice (some ⟨gF, 0, none⟩) (n + 6) cF) (revK zs (k + 1) ++ marks 7 0 6)) := by
        have := HO.out.set hlr k x
        rwa [revK_next zs _ k hk3 x hx] at this
      have HL2 : Hid ((wr.setCell ⟨gF, k, none⟩ (.int .i64 x)).heap[gL]? = some (.cells L 26)) := (heap_setCell_other _ _ _ _ hLF).trans HLr.out
      have HB2 : Hid (Below w.heap.size w (wr.setCell ⟨gF, k, none⟩ (.int .i64 x))) := HB.out.setCell (p := ⟨gF, k, none⟩) hwF _
      have hw1 : IntKind.i64.wrap ((n : Int) - 1) = (n : Int) - 1 := by rw [IntKind.wrap_i64]; omega
      have hw2 : IntKind.i64.wrap ((n : Int) - 1 - (k : Int)) = (n : Int) - 1 - (k : Int) := by rw [IntKind.wrap_i64]; omega
      have hw3 : ((n : Int) - 1 - (k : Int)).toNat = n - 1 - k := by omega
      subst hp1
      clear hx hx2 C1 hlr HO HLr HB hn hk3
      go_wp2
      exact ⟨⟨k + 1, by omega, by go_num, HO2.out, HL2.out, HB2.out⟩, by simp [intOf]; omega⟩
    · obtain rfl : k = n := by omega
      have hlr : zs.reverse.length = k := by rw [List.length_reverse]; exact HN.out.1
      have HIR : Hid (IntsAt wr (some ⟨gF, 0, none⟩) zs.reverse) := by
        have h := ints_pre HO.out.ints' k
        have hrk : revK zs k = zs.reverse := by have := revK_all zs; rwa [HN.out.1] at this
        rw [hrk, List.take_append_of_le_length (by omega), List.take_of_length_le (by omega)] at h
        exact h
      have hL9 : wr.heap[gL]? = some (.cells L 26) := HLr.out
      have hlz : zs.reverse.length < 9223372036854775807 := by omega
      have HRr : Hid (∀ q c W, IntsAt W q zs.reverse → Calls Try.prog 10 #[.agg L, .agg #[.slice q k c]] W fun e' w' => e' = .returned (.tuple #[.agg (blk (eB zs.reverse)), .int .i64 (eN zs.reverse)]) ∧ Below W.heap.size W w') := fun q c W h => by
        have := HR.out zs.reverse q c W h hlz
        rwa [hlr] at this
      have HEr : Hid (∀ W, IntsAt W (some ⟨gF, 0, none⟩) zs.reverse → Calls Try.prog 11 #[.agg L, .agg #[.slice (some ⟨gF, 0, none⟩) k cF]] W fun e' w' => e' = .returned (.tuple #[.agg (blk (eB zs.reverse)), .int .i64 (eN zs.reverse)]) ∧ Below W.heap.size W w') := fun W h => by
        have := HE.out zs.reverse (some ⟨gF, 0, none⟩) cF W h hlz (wfI_rev HN.out.2)
        rwa [hlr] at this
      have HCp : Hid (∀ W, IntsAt W (some ⟨gF, 0, none⟩) zs.reverse → Calls Try.prog 13 #[.slice (some ⟨gF, 0, none⟩) k cF] W fun e' w' => ∃ v, e' = .returned v ∧ OwnZ w' W.heap.size v zs.reverse ∧ Below W.heap.size W w') := fun W h => by
        have := copy_ints zs.reverse (some ⟨gF, 0, none⟩) cF (fun q => by cases q) W (by omega) h
        rwa [hlr] at this
      generalize eB zs.reverse = B2 at *
      generalize eN zs.reverse = E2 at *
      clear HO HLr HE HR hlz
      go_upto_region 12 with fail
      go_cut [11, 15] from 71 to 78 (fun s11 s15 wc => ∃ g15 : Nat, s11 = .int .i64 E2 ∧ s15 = .pointer (some ⟨g15, 0, none⟩) ∧ wc.heap[g15]? = some (.cells (blk B2) 30) ∧ Below wr.heap.size wr wc)
      case first =>
        refine wp_region_plan (S := fun u => Below wr.heap.size wr u) 11 [.inl 0, .inl 1, .inr (.inr (2, 8, 14)), .inl 3, .inr (.inr (4, 8, 6)), .inl 5, .inl 6, .inl 7, .inr (.inl 8), .inr (.inl 9), .inl 10, .inr (.inl 4), .inl 5, .inl 6, .inl 7, .inr (.inl 9), .inl 10, .inr (.inl 2), .inl 3, .inr (.inl 4), .inl 5, .inl 6, .inl 7, .inr (.inl 9), .inl 10] (by kernel_rfl) rfl (by kernel_rfl) (fun d _ _ _ _ h => by cases d <;> exact h) (drew_below wr) ?_
        refine wpPl_yield (v := .agg L) rfl rfl (fun u hu => by exact exec_loadL rfl rfl hsz (heap_kept hL9 hu)) ?_
        simp only [Act.put, List.setIfInBounds_toArray, List.set_cons_succ, List.set_cons_zero]
        refine wpPl_yield (v := .slice (some ⟨gF, 0, none⟩) k cF) rfl rfl (fun u _ => by simp [execOp, Act.eval]) ?_
        simp only [Act.put, List.setIfInBounds_toArray, List.set_cons_succ, List.set_cons_zero]
        have hq := drew_below wr
        generalize wr.drew = V at *
        refine wpPl_two (r1 := [.inl 3, .inr (.inr (4, 8, 6)), .inl 5, .inl 6, .inl 7, .inr (.inl 8), .inr (.inl 9), .inl 10, .inr (.inl 4), .inl 5, .inl 6, .inl 7, .inr (.inl 9), .inl 10]) (r2 := [.inr (.inl 2), .inl 3, .inr (.inl 4), .inl 5, .inl 6, .inl 7, .inr (.inl 9), .inl 10]) rfl rfl ?_ ?_ rfl rfl
        · refine act_call rfl 13 _ _ rfl Try.call13 [.slice (some ⟨gF, 0, none⟩) k cF] rfl ?_
          refine (HCp.out _ (HIR.out.later hq)).mono ?_
          rintro e' X ⟨v, rfl, hown, hbX⟩
          obtain ⟨q, c, rfl, hq0, _, _⟩ := hown.ints
          rw [hlr]
          have hqX := below_next hq hbX
          have HQ : Hid (IntsAt X q zs.reverse) := hq0
          clear hown hq0
          refine ⟨_, rfl, hqX, ?_⟩
          simp only [Act.put, List.setIfInBounds_toArray, List.set_cons_succ, List.set_cons_zero]
          refine wpPl_yield (v := .agg #[.slice q k c]) rfl rfl (fun u _ => by go_simp) ?_
          simp only [Act.put, List.setIfInBounds_toArray, List.set_cons_succ, List.set_cons_zero]
          refine wpPl_two (r1 := [.inl 5, .inl 6, .inl 7, .inr (.inl 8), .inr (.inl 9), .inl 10]) (r2 := [.inr (.inl 4), .inl 5, .inl 6, .inl 7, .inr (.inl 9), .inl 10]) rfl rfl ?_ ?_ rfl rfl
          · refine act_call rfl 10 _ _ rfl Try.call10 [.agg L, .agg #[.slice q k c]] rfl ?_
            refine (HRr.out q c _ HQ.out).mono ?_
            rintro e' Y ⟨rfl, hbY⟩
            have hqY := below_next hqX hbY
            refine ⟨_, rfl, hqY, ?_⟩
            simp only [Act.put, List.setIfInBounds_toArray, List.set_cons_succ, List.set_cons_zero]
            refine wpPl_yield (v := .tuple #[.agg (blk B2), .int .i64 E2]) rfl rfl (fun u _ => by simp [execOp, Act.eval]) ?_
            simp only [Act.put, List.setIfInBounds_toArray, List.set_cons_succ, List.set_cons_zero]
            refine wpPl_yield (v := .agg (blk B2)) rfl rfl (fun u _ => by go_simp) ?_
            simp only [Act.put, List.setIfInBounds_toArray, List.set_cons_succ, List.set_cons_zero]
            refine wpPl_yield (v := .int .i64 E2) rfl rfl (fun u _ => by go_simp) ?_
            simp only [Act.put, List.setIfInBounds_toArray, List.set_cons_succ, List.set_cons_zero]
            refine wpPl_act rfl (act_makes rfl (exec_allocB rfl) (hqY.alloc hqY.size _) ?_)
            simp only [Act.put, List.setIfInBounds_toArray, List.set_cons_succ, List.set_cons_zero]
            have hgA := heap_alloc_new Y (.cells (blk nought) 30)
            have hge := hqY.size
            have hqA : Below wr.heap.size wr (Y.alloc (.cells (blk nought) 30)) := hqY.alloc hqY.size _
            refine wpPl_act rfl (act_done rfl (exec_storeB rfl Y.heap.size B2 nought rfl rfl hgA) (below_setRow hqA hge _) ?_)
            simp only [Act.put]
            refine wpPl_yield (v := .int .i64 E2) rfl rfl (fun u _ => by simp [execOp, Act.eval]) ?_
            simp only [Act.put, List.setIfInBounds_toArray, List.set_cons_succ, List.set_cons_zero]
            refine wpPl_done ?_
            have hZ := setRow_heap (Y.alloc (.cells (blk nought) 30)) (Y.heap.size) (blk nought) (blk B2) 30 (0, 0) hgA
            have HZ : Hid (Below wr.heap.size wr ((Y.alloc (.cells (blk nought) 30)).setRow (Y.heap.size) (blk B2))) := below_setRow hqA hge _
            go_wp2_with fail
            go_meet
            case rel => exact ⟨_, rfl, rfl, hZ, HZ.out⟩
          · refine act_makes rfl (exec_allocB rfl) (hqX.alloc hqX.size _) ?_
            simp only [Act.put, List.setIfInBounds_toArray, List.set_cons_succ, List.set_cons_zero]
            have hgA := heap_alloc_new X (.cells (blk nought) 30)
            have hge := hqX.size
            have hqA : Below wr.heap.size wr (X.alloc (.cells (blk nought) 30)) := hqX.alloc hqX.size _
            refine wpPl_act rfl ?_
            refine act_call rfl 10 _ _ rfl Try.call10 [.agg L, .agg #[.slice q k c]] rfl ?_
            refine (HRr.out q c _ (HQ.out.later (below_new _ _))).mono ?_
            rintro e' Y ⟨rfl, hbY⟩
            have hqY := below_next hqA hbY
            refine ⟨_, rfl, hqY, ?_⟩
            simp only [Act.put, List.setIfInBounds_toArray, List.set_cons_succ, List.set_cons_zero]
            refine wpPl_yield (v := .tuple #[.agg (blk B2), .int .i64 E2]) rfl rfl (fun u _ => by simp [execOp, Act.eval]) ?_
            simp only [Act.put, List.setIfInBounds_toArray, List.set_cons_succ, List.set_cons_zero]
            refine wpPl_yield (v := .agg (blk B2)) rfl rfl (fun u _ => by go_simp) ?_
            simp only [Act.put, List.setIfInBounds_toArray, List.set_cons_succ, List.set_cons_zero]
            refine wpPl_yield (v := .int .i64 E2) rfl rfl (fun u _ => by go_simp) ?_
            simp only [Act.put, List.setIfInBounds_toArray, List.set_cons_succ, List.set_cons_zero]
            refine wpPl_act rfl (act_done rfl (exec_storeB rfl X.heap.size B2 nought rfl rfl (heap_kept hgA hbY)) (below_setRow hqY hge _) ?_)
            simp only [Act.put]
            refine wpPl_yield (v := .int .i64 E2) rfl rfl (fun u _ => by simp [execOp, Act.eval]) ?_
            simp only [Act.put, List.setIfInBounds_toArray, List.set_cons_succ, List.set_cons_zero]
            refine wpPl_done ?_
            have hZ := setRow_heap Y (X.heap.size) (blk nought) (blk B2) 30 (0, 0) (heap_kept hgA hbY)
            have HZ : Hid (Below wr.heap.size wr (Y.setRow (X.heap.size) (blk B2))) := below_setRow hqY hge _
            go_wp2_with fail
            go_meet
            case rel => exact ⟨_, rfl, rfl, hZ, HZ.out⟩
        · refine act_makes rfl (exec_allocB rfl) (hq.alloc hq.size _) ?_
          simp only [Act.put, List.setIfInBounds_toArray, List.set_cons_succ, List.set_cons_zero]
          have hgA := heap_alloc_new V (.cells (blk nought) 30)
          have hge := hq.size
          have hqA : Below wr.heap.size wr (V.alloc (.cells (blk nought) 30)) := hq.alloc hq.size _
          refine wpPl_act rfl ?_
          refine act_call rfl 13 _ _ rfl Try.call13 [.slice (some ⟨gF, 0, none⟩) k cF] rfl ?_
          refine (HCp.out _ (HIR.out.later hqA)).mono ?_
          rintro e' X ⟨v, rfl, hown, hbX⟩
          obtain ⟨q, c, rfl, hq0, _, _⟩ := hown.ints
          rw [hlr]
          have hqX := below_next hqA hbX
          have HQ : Hid (IntsAt X q zs.reverse) := hq0
          clear hown hq0
          refine ⟨_, rfl, hqX, ?_⟩
          simp only [Act.put, List.setIfInBounds_toArray, List.set_cons_succ, List.set_cons_zero]
          refine wpPl_yield (v := .agg #[.slice q k c]) rfl rfl (fun u _ => by go_simp) ?_
          simp only [Act.put, List.setIfInBounds_toArray, List.set_cons_succ, List.set_cons_zero]
          refine wpPl_act rfl ?_
          refine act_call rfl 10 _ _ rfl Try.call10 [.agg L, .agg #[.slice q k c]] rfl ?_
          refine (HRr.out q c _ HQ.out).mono ?_
          rintro e' Y ⟨rfl, hbY⟩
          have hqY := below_next hqX hbY
          refine ⟨_, rfl, hqY, ?_⟩
          simp only [Act.put, List.setIfInBounds_toArray, List.set_cons_succ, List.set_cons_zero]
          refine wpPl_yield (v := .tuple #[.agg (blk B2), .int .i64 E2]) rfl rfl (fun u _ => by simp [execOp, Act.eval]) ?_
          simp only [Act.put, List.setIfInBounds_toArray, List.set_cons_succ, List.set_cons_zero]
          refine wpPl_yield (v := .agg (blk B2)) rfl rfl (fun u _ => by go_simp) ?_
          simp only [Act.put, List.setIfInBounds_toArray, List.set_cons_succ, List.set_cons_zero]
          refine wpPl_yield (v := .int .i64 E2) rfl rfl (fun u _ => by go_simp) ?_
          simp only [Act.put, List.setIfInBounds_toArray, List.set_cons_succ, List.set_cons_zero]
          refine wpPl_act rfl (act_done rfl (exec_storeB rfl V.heap.size B2 nought rfl rfl (heap_kept (heap_kept hgA hbX) hbY)) (below_setRow hqY hge _) ?_)
          simp only [Act.put]
          refine wpPl_yield (v := .int .i64 E2) rfl rfl (fun u _ => by simp [execOp, Act.eval]) ?_
          simp only [Act.put, List.setIfInBounds_toArray, List.set_cons_succ, List.set_cons_zero]
          refine wpPl_done ?_
          have hZ := setRow_heap Y (V.heap.size) (blk nought) (blk B2) 30 (0, 0) (heap_kept (heap_kept hgA hbX) hbY)
          have HZ : Hid (Below wr.heap.size wr (Y.setRow (V.heap.size) (blk B2))) := below_setRow hqY hge _
          go_wp2_with fail
          go_meet
          case rel => exact ⟨_, rfl, rfl, hZ, HZ.out⟩
      case rest =>
        obtain ⟨g15, rfl, rfl, h15, hbc⟩ := hcut
        have hLc := heap_kept hL9 hbc
        have HIc : Hid (IntsAt wc (some ⟨gF, 0, none⟩) zs.reverse) := HIR.out.later hbc
        have HBc : Hid (Below w.heap.size w wc) := HB.out.trans (hbc.mono HB.out.size)
        clear hbc hL9 HIR HB HRr HCp
        go_wp2_with (first | (with_reducible refine isLoad 26 ?_; refine wpList_loadL rfl _ rfl _ rfl _ hsz hLc ?_) | (go_at_call 11; fail))
        refine (HEr.out _ HIc.out).mono ?_
        rintro e' W9 ⟨rfl, hb9⟩
        have h15' := heap_kept (heap_kept h15 hb9) (below_new W9 (.cells (blk B2) 30))
        have h16 := heap_alloc_new W9 (.cells (blk B2) 30)
        have HB9 : Hid (Below w.heap.size w (W9.alloc (.cells (blk B2) 30))) := bel_al (below_next HBc.out hb9) _
        clear hb9 h15 HBc HIc hLc HEr
        go_wp2_with (first | (with_reducible refine isStore 30 ?_; refine wpList_store25_new rfl _ _ rfl _ _ rfl rfl ?_) | (with_reducible refine isLoad 30 ?_; refine wpList_load30w rfl (.tmp 16) rfl _ rfl _ h16 ?_) | (with_reducible refine isLoad 30 ?_; refine wpList_load30w rfl (.tmp 15) rfl _ rfl _ h15' ?_) | (with_reducible refine isEq 30 30 ?_; refine wpList_eq30 rfl _ _ rfl B2 B2 true rfl rfl (sameB_self _) ?_))
        go_ret
        exact ⟨rfl, HB9.out⟩
end Go.Proofs.Ytgkhheblmknedaa
