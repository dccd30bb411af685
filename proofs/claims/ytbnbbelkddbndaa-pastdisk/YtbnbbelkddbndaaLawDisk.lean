/- PastDisk: what a disk holds when its power has gone is what its history says; for every scene. -/
import Derived.Test.YtbnbbelkddbndaaDLoad
namespace Go.Proofs.Ytbnbbelkddbndaa
open Go.RowKit Go.Maps
theorem exec_mv {a : Act} {o : Oper} {x : Operand} {v : Value} {u : World} (ho : o.op = .move x) (hx : a.eval x = v) : (execOp a.eval o).run Try.prog u = .ok (.value v) u := by
  unfold execOp
  simp [ho, hx]
theorem bools_later {w W : World} {v : Value} {l : List Bool} (h : BoolsAt w v l) (hb : Below w.heap.size w W) : BoolsAt W v l := h.kept (Fr.ofBelow (T := fun _ => False) hb) fun _ _ _ _ z => z
theorem Hid.mk' {p : Prop} (h : p) : Hid p := h
/-- A disk with blocks beside it that were made since. -/
theorem Sits.take {w V W : World} {d : Nat} {s : St} {ks : List (Nat × Obj)} (h : Sits w V d s []) (hb : Below V.heap.size V W) (hks : ∀ p ∈ ks, W.heap[p.1]? = some p.2 ∧ V.heap.size ≤ p.1) : Sits w W d s ks := by
  have h2 := h.later hb
  obtain ⟨L, hd, hS⟩ := h
  refine ⟨L, hd, hS.disk.later hb, hS.new, h2.below, fun p hp => ⟨(hks p hp).1, fun q => ?_⟩⟩
  have := hS.disk.lt _ q
  have := (hks p hp).2
  omega
theorem Sits.hist {w W : World} {d : Nat} {s : St} (h : Sits w W d s []) (ho : s.ops.length ≤ 1000) : Calls Try.prog 34 #[.pointer (some ⟨d, 0, none⟩)] W fun e W' => e = .returned (.slice (some ⟨W.heap.size, 0, none⟩) s.ops.length s.ops.length) ∧ OpsAt W' (some ⟨W.heap.size, 0, none⟩) s.ops ∧ Below W.heap.size W W' := by
  obtain ⟨L, rfl, hS⟩ := h
  exact (history_of hS.disk (by omega)).mono fun e W' ⟨h1, h2, h3⟩ => ⟨h1, ops_row h2, h3⟩
theorem Sits.pends {w W : World} {d : Nat} {s : St} (h : Sits w W d s []) (ho : s.wait.length ≤ 1000) : Calls Try.prog 35 #[.pointer (some ⟨d, 0, none⟩)] W fun e W' => e = .returned (.slice (some ⟨W.heap.size, 0, none⟩) s.wait.length s.wait.length) ∧ W'.heap[W.heap.size]? = some (.cells (iRow (posF s.wait) s.wait.length) 3) ∧ Below W.heap.size W W' := by
  obtain ⟨L, rfl, hS⟩ := h
  exact pend_of hS.disk (by omega)
theorem wait_len (s : St) : s.ops.length = s.done.length + s.wait.length := by
  unfold St.ops
  rw [List.length_append, List.length_map]
set_option maxRecDepth 20000 in
set_option maxHeartbeats 4000000 in
theorem law_disk (n : Int) (p : Option Addr) (l : List Cel) (cp : Nat) (po : Option Addr) (ops : List Rec) (co : Nat) (K : Int) (ka : Option Addr) (keep : List Bool) (kc : Nat) (q : Int) (w : World)
    (hI : ImgAt w p l) (hO : OpsAt w po ops) (hk : BoolsAt w (.slice ka keep.length kc) keep) (hcl : ∀ c ∈ l, Can c.2) (hcr : ∀ r ∈ ops, Can r.dat)
    (ll : l.length ≤ maxLen) (lo : ops.length ≤ maxLen) (lk : keep.length ≤ maxLen) :
    Calls Try.prog 8 #[.agg (sceneV n p l.length cp po ops.length co K ka keep.length kc q)] w fun e w' => e = .returned (.bool true) ∧ Below w.heap.size w w' := by
  unfold maxLen at ll lo lk
  obtain ⟨m, hm⟩ : ∃ m, ops.length = m := ⟨_, rfl⟩
  obtain ⟨mk, hmk⟩ : ∃ mk, keep.length = mk := ⟨_, rfl⟩
  have HLl : Hid (l.length ≤ 9223372036854775807) := ll
  rw [hm] at lo ⊢
  rw [hmk] at lk hk ⊢
  have HM := Hid.mk' hm
  have HMk := Hid.mk' hmk
  have hB0 := below_new w (.cells (sceneV n p l.length cp po m co K ka mk kc q) 28)
  have hG0 := heap_alloc_new w (.cells (sceneV n p l.length cp po m co K ka mk kc q) 28)
  have HI : Hid (ImgAt w p l) := hI
  have HO : Hid (OpsAt w po ops) := hO
  have HK : Hid (BoolsAt w (.slice ka mk kc) keep) := hk
  have HCl : Hid (∀ c ∈ l, Can c.2) := hcl
  have HCr : Hid (∀ r ∈ ops, Can r.dat) := hcr
  clear hI hO hk hcl hcr hm hmk
  unfold sceneV at *
  go_enter Try.func8, Try.ntmps8
  go_wp2_with (go_at_call 20; fail)
  refine (lives_any _).mono ?_
  rintro e W1 ⟨rfl, hb1⟩
  have hG1 := heap_kept hG0 hb1
  have hB1 := below3 hB0 hb1
  have c0 : W1.cell? ⟨w.heap.size, 0, none⟩ = some (.int .i64 n) := Joins.cell_of_block hG1 0
  have c1 : W1.cell? ⟨w.heap.size, 1, none⟩ = some (.slice p l.length cp) := Joins.cell_of_block hG1 1
  have c2 : W1.cell? ⟨w.heap.size, 2, none⟩ = some (.slice po m co) := Joins.cell_of_block hG1 2
  have c4 : W1.cell? ⟨w.heap.size, 4, none⟩ = some (.slice ka mk kc) := Joins.cell_of_block hG1 4
  have hw1 : w.heap.size < W1.heap.size := (Array.getElem?_eq_some_iff.1 hG1).1
  have HBw1 := Hid.mk' hB1
  clear hG0 hB0 hb1 hB1
  by_cases hn1 : n < 1
  · go_wp2
    go_ret
    exact ⟨rfl, HBw1.out⟩
  by_cases hn9 : n > 9
  · go_wp2
    go_ret
    exact ⟨rfl, HBw1.out⟩
  have wh := whole_le n l p cp W1 HLl.out (HI.out.later HBw1.out)
  go_wp2_with (go_at_call 22; fail)
  refine wh.mono ?_
  rintro e W2 ⟨rfl, hb2⟩
  have hG2 := heap_kept hG1 hb2
  have HB2 : Hid (Below w.heap.size w W2) := below3 HBw1.out hb2
  clear c0 c1 c2 c4 wh hG1 hb2 hw1
  have c0 : W2.cell? ⟨w.heap.size, 0, none⟩ = some (.int .i64 n) := Joins.cell_of_block hG2 0
  have c1 : W2.cell? ⟨w.heap.size, 1, none⟩ = some (.slice p l.length cp) := Joins.cell_of_block hG2 1
  have c2 : W2.cell? ⟨w.heap.size, 2, none⟩ = some (.slice po m co) := Joins.cell_of_block hG2 2
  have c4 : W2.cell? ⟨w.heap.size, 4, none⟩ = some (.slice ka mk kc) := Joins.cell_of_block hG2 4
  have hw2 : w.heap.size < W2.heap.size := (Array.getElem?_eq_some_iff.1 hG2).1
  cases hmay : mayB n l
  · have hwe : wholeE n l = 2 := by unfold wholeE; rw [hmay]; rfl
    rw [hwe]
    go_wp2
    go_ret
    exact ⟨rfl, HB2.out⟩
  have hwe : wholeE n l = 0 := by unfold wholeE; rw [hmay]; rfl
  rw [hwe]
  by_cases hm60 : (60 : Int) < m
  · go_wp2
    go_ret
    exact ⟨rfl, HB2.out⟩
  by_cases hk120 : (120 : Int) < mk
  · go_wp2
    go_ret
    exact ⟨rfl, HB2.out⟩
  have HMay := Hid.mk' hmay
  have hll := may_len hmay
  have HN : Hid (bndB n = true) := (may_bounds hmay).1
  have hld := load_ok n l p cp W2 (by omega) (HI.out.later HB2.out) HCl.out hmay
  have HLd := Hid.mk' hld
  clear hwe hmay hld
  go_wp2_with (go_at_call 31; fail)
  refine HLd.out.mono ?_
  rintro e W3 ⟨L, rfl, hD, hL, hb3⟩
  have hG3 := hG2
  have HB3 : Hid (Below w.heap.size w W2) := HB2.out
  have HI3 : Hid (ImgAt W2 p l) := HI.out.later HB3.out
  have HO3 : Hid (OpsAt W2 po ops) := fun h0 => by
    obtain ⟨b5, o5, e5, hl5, hR5⟩ := HO.out h0
    exact ⟨b5, o5, e5, Nat.lt_of_lt_of_le hl5 HB3.out.size, hR5.later HB3.out hl5⟩
  have HK3 : Hid (BoolsAt W2 (.slice ka mk kc) keep) := bools_later HK.out HB3.out
  obtain ⟨DS, DO⟩ := DI.start n l
  have H00 : Hid (Sits W2 W3 L.d (loadV n l) [] ∧ DI n l (loadV n l) ∧ (loadV n l).ops.length = 0) := ⟨⟨L, rfl, hD, hL, hb3, fun p hp => absurd hp List.not_mem_nil⟩, DS, by rw [DO]; rfl⟩
  generalize hd0 : L.d = d at *
  have HLt : Hid (Below W2.heap.size W2 W3) := hb3
  clear HLd hD hL hb3 DS DO hd0 c0 c1 c2 c4 hG2 hw2
  have H0 : Hid (Sits W2 W3 d (loadV n l) [] ∧ DI n l (loadV n l) ∧ (loadV n l).ops.length = 0) := H00.out
  clear H00
  have HCell : Hid (∀ W, Below W2.heap.size W2 W → W.cell? ⟨w.heap.size, 0, none⟩ = some (.int .i64 n) ∧ W.cell? ⟨w.heap.size, 1, none⟩ = some (.slice p l.length cp) ∧ W.cell? ⟨w.heap.size, 2, none⟩ = some (.slice po m co) ∧ W.cell? ⟨w.heap.size, 3, none⟩ = some (.int .i64 K) ∧ W.cell? ⟨w.heap.size, 4, none⟩ = some (.slice ka mk kc) ∧ W.cell? ⟨w.heap.size, 5, none⟩ = some (.int .i64 q)) := fun W hW => by
    have hr := heap_kept hG3 hW
    exact ⟨Joins.cell_of_block hr 0, Joins.cell_of_block hr 1, Joins.cell_of_block hr 2, Joins.cell_of_block hr 3, Joins.cell_of_block hr 4, Joins.cell_of_block hr 5⟩
  clear hG3 HI HO HK HB2 HBw1
  generalize hqq : w.heap.size = qq at *
  have HQQ := Hid.mk' hqq
  clear hqq
  go_wp2
  go_loopw [5] (fun s5 wx => ∃ (k : Nat) (s : St), k ≤ m ∧ s5 = .int .i64 k ∧ Hid (Sits W2 wx d s [] ∧ DI n l s ∧ s.ops.length = k)) (fun s5 _ => m - (intOf s5).toNat)
  case atStart => exact ⟨0, loadV n l, by omega, rfl, H0.out⟩
  case round =>
    obtain ⟨k, s, hk, rfl, HK⟩ := hrel
    clear H0
    have hbW := HK.out.1.below
    by_cases hk2 : (k : Int) < m
    · have hkl : k < ops.length := by rw [HM.out]; omega
      have hgk : ops[k]? = some ops[k] := List.getElem?_eq_getElem (by omega)
      have hcr := HCr.out ops[k] (List.getElem_mem _)
      generalize ops[k] = r at hgk hcr
      obtain ⟨bo, oo, rfl, hlto, hRo⟩ := HO3.out (by rw [HM.out]; omega)
      obtain ⟨q1, _, _⟩ := hRo.later hbW hlto k r hgk
      have so : ∀ u, Below W2.heap.size W2 u → u.cell? ⟨qq, 2, none⟩ = some (.slice (some ⟨bo, oo, none⟩) m co) := fun u hu => (HCell.out u hu).2.2.1
      have c2 := so wr hbW
      by_cases hkd : r.kind = 2
      · have gk : decide (r.kind = 2) = true := decide_eq_true hkd
        obtain ⟨e1, e2, e3⟩ := HK.out.2.1.bar
        have hb := sits_barrier HK.out.1 (HK.out.2.1.room (by rw [HK.out.2.2]; omega))
        rw [e1] at hb
        have HB := Hid.mk' hb
        have HN2 : Hid (DI n l (barV s) ∧ (barV s).ops.length = k + 1) := ⟨e2, by rw [e3, List.length_append, HK.out.2.2]; rfl⟩
        clear hb e1 e2 e3 hRo HK so hgk
        go_wp2_with (first | (go_at_call 32; fail))
        refine HB.out.mono ?_
        rintro e Wa ⟨rfl, h1⟩
        have H1 := Hid.mk' h1
        clear h1 HB c2 q1
        go_wp2
        exact ⟨⟨k + 1, barV s, by omega, by go_num, H1.out, HN2.out⟩, by simp [intOf]; omega⟩
      · have gk : decide (r.kind = 2) = false := decide_eq_false hkd
        have hpk := fun W => pick_any r.pos n ⟨by omega, by omega⟩ W
        obtain ⟨at0, hat, hatr⟩ : ∃ at0, r.pos % n = at0 ∧ 0 ≤ at0 ∧ at0 < n := ⟨_, rfl, Int.emod_nonneg _ (by omega), Int.emod_lt_of_pos _ (by omega)⟩
        rw [hat] at hpk
        obtain ⟨e1, e2, e3⟩ := HK.out.2.1.write (k := at0) hatr hcr
        have HSd := Hid.mk' (HK.out.1.later (Below.drew (Below.refl _ wr)))
        have hw := sits_write HSd.out (HK.out.2.1.room (by rw [HK.out.2.2]; omega)) at0 hcr
        rw [e1] at hw
        obtain ⟨FR, hFR⟩ : ∃ FR, blk r.dat = FR := ⟨_, rfl⟩
        rw [hFR] at hw
        have HWr := Hid.mk' hw
        have HN2 : Hid (DI n l (writeV s at0 r.dat) ∧ (writeV s at0 r.dat).ops.length = k + 1) := ⟨e2, by rw [e3, List.length_append, HK.out.2.2]; rfl⟩
        have sp : ∀ u, Below W2.heap.size W2 u → u.cell? ⟨bo, oo + k * 1026 + 1, none⟩ = some (.int .i64 r.pos) := fun u hu => (hRo.later hu hlto k r hgk).2.1
        have sn : ∀ u, Below W2.heap.size W2 u → u.cell? ⟨qq, 0, none⟩ = some (.int .i64 n) := fun u hu => (HCell.out u hu).1
        have sd : ∀ u, Below W2.heap.size W2 u → (Instr.loadAt 40 (.pointer (some ⟨bo, oo + k * 1026 + 2, none⟩))).run Try.prog u = .ok (.agg FR) u := fun u hu => by
          rw [← hFR]
          exact loadM (hRo.later hu hlto k r hgk).2.2
        clear hw e1 e2 e3 HK hat hFR hbW
        go_wp2
        refine wp_region_ord (S := fun u => Below W2.heap.size W2 u) [(0, true), (1, true), (2, true), (3, true), (4, true), (5, true), (6, true), (7, true), (8, true), (9, true), (11, true), (12, true), (13, true), (14, true), (15, true), (16, true), (10, false), (17, false), (18, true)]
          (by kernel_rfl) rfl (by kernel_rfl) (fun d _ _ _ _ h => by cases d <;> exact h) HSd.out.below ?_
        simp only [inOrd, List.getElem?_cons_zero, List.getElem?_cons_succ]
        refine wpOrd_yield (v := .pointer (some ⟨d, 0, none⟩)) rfl (fun u _ => exec_mv rfl rfl) ?_
        simp only [Act.put, List.setIfInBounds_toArray, List.set_cons_succ, List.set_cons_zero]
        refine wpOrd_yield (v := .pointer (some ⟨qq, 2, none⟩)) rfl (fun u hu => by go_simp) ?_
        simp only [Act.put, List.setIfInBounds_toArray, List.set_cons_succ, List.set_cons_zero]
        refine wpOrd_yield (v := .slice (some ⟨bo, oo, none⟩) m co) rfl (fun u hu => by have := so u hu; go_simp) ?_
        simp only [Act.put, List.setIfInBounds_toArray, List.set_cons_succ, List.set_cons_zero]
        refine wpOrd_yield (v := .int .i64 (k : Int)) rfl (fun u _ => exec_mv rfl rfl) ?_
        simp only [Act.put, List.setIfInBounds_toArray, List.set_cons_succ, List.set_cons_zero]
        refine wpOrd_yield (v := .pointer (some ⟨bo, oo + k * 1026, none⟩)) rfl (fun u hu => by go_simp) ?_
        simp only [Act.put, List.setIfInBounds_toArray, List.set_cons_succ, List.set_cons_zero]
        refine wpOrd_yield (v := .pointer (some ⟨bo, oo + k * 1026 + 1, none⟩)) rfl (fun u hu => by go_simp) ?_
        simp only [Act.put, List.setIfInBounds_toArray, List.set_cons_succ, List.set_cons_zero]
        refine wpOrd_yield (v := .int .i64 r.pos) rfl (fun u hu => by have := sp u hu; go_simp) ?_
        simp only [Act.put, List.setIfInBounds_toArray, List.set_cons_succ, List.set_cons_zero]
        refine wpOrd_yield (v := .pointer (some ⟨qq, 0, none⟩)) rfl (fun u hu => by go_simp) ?_
        simp only [Act.put, List.setIfInBounds_toArray, List.set_cons_succ, List.set_cons_zero]
        refine wpOrd_yield (v := .pointer (some ⟨qq, 0, none⟩)) rfl (fun u hu => by go_simp) ?_
        simp only [Act.put, List.setIfInBounds_toArray, List.set_cons_succ, List.set_cons_zero]
        refine wpOrd_yield (v := .int .i64 n) rfl (fun u hu => by have := sn u hu; go_simp) ?_
        simp only [Act.put, List.setIfInBounds_toArray, List.set_cons_succ, List.set_cons_zero]
        refine wpOrd_yield (v := .pointer (some ⟨qq, 2, none⟩)) rfl (fun u hu => by go_simp) ?_
        simp only [Act.put, List.setIfInBounds_toArray, List.set_cons_succ, List.set_cons_zero]
        refine wpOrd_yield (v := .slice (some ⟨bo, oo, none⟩) m co) rfl (fun u hu => by have := so u hu; go_simp) ?_
        simp only [Act.put, List.setIfInBounds_toArray, List.set_cons_succ, List.set_cons_zero]
        refine wpOrd_yield (v := .int .i64 (k : Int)) rfl (fun u _ => exec_mv rfl rfl) ?_
        simp only [Act.put, List.setIfInBounds_toArray, List.set_cons_succ, List.set_cons_zero]
        refine wpOrd_yield (v := .pointer (some ⟨bo, oo + k * 1026, none⟩)) rfl (fun u hu => by go_simp) ?_
        simp only [Act.put, List.setIfInBounds_toArray, List.set_cons_succ, List.set_cons_zero]
        refine wpOrd_yield (v := .pointer (some ⟨bo, oo + k * 1026 + 2, none⟩)) rfl (fun u hu => by go_simp) ?_
        simp only [Act.put, List.setIfInBounds_toArray, List.set_cons_succ, List.set_cons_zero]
        refine wpOrd_yield (v := .agg FR) rfl (fun u hu => exec_load rfl rfl (sd u hu)) ?_
        simp only [Act.put, List.setIfInBounds_toArray, List.set_cons_succ, List.set_cons_zero]
        refine wpOrd_call rfl 17 _ _ rfl Try.call17 [.int .i64 r.pos, .int .i64 n] rfl ?_
        refine (hpk _).mono ?_
        rintro e X1 ⟨rfl, he⟩
        obtain rfl := he.symm
        clear he
        refine ⟨_, rfl, HSd.out.below, ?_⟩
        simp only [Act.put, List.setIfInBounds_toArray, List.set_cons_succ, List.set_cons_zero]
        refine wpOrd_call rfl 33 _ _ rfl Try.call33 [.pointer (some ⟨d, 0, none⟩), .int .i64 at0, .agg FR] rfl ?_
        refine HWr.out.mono ?_
        rintro e X2 ⟨rfl, hx2⟩
        have HX2 := Hid.mk' hx2
        refine ⟨_, rfl, hx2.below, ?_⟩
        clear hx2
        simp only [Act.put, List.setIfInBounds_toArray, List.set_cons_succ, List.set_cons_zero]
        refine wpOrd_yield (v := .int .i64 0) rfl (fun u hu => by go_simp) ?_
        simp only [Act.put, List.setIfInBounds_toArray, List.set_cons_succ, List.set_cons_zero]
        refine wpOrd_nil ?_
        clear so sp sn sd hpk HSd HWr hRo q1 c2
        go_wp2
        exact ⟨⟨k + 1, writeV s at0 r.dat, by omega, by go_num, HX2.out, HN2.out⟩, by simp [intOf]; omega⟩
    · obtain rfl : k = m := by omega
      have hop : s.ops.length = k := HK.out.2.2
      obtain ⟨c0w, c1w, c2w, c3w, c4w, c5w⟩ := HCell.out wr hbW
      have hh := HK.out.1.hist (by rw [hop]; omega)
      rw [hop] at hh
      have HH := Hid.mk' hh
      have HDI := Hid.mk' HK.out.2.1
      have HS0 := Hid.mk' HK.out.1
      have HOp := Hid.mk' hop
      clear hh hop HK hbW
      go_wp2_with (first | (go_at_call 34; fail))
      refine HH.out.mono ?_
      rintro e V1 ⟨rfl, hO1, hb1⟩
      have HB1 : Hid (Below wr.heap.size wr V1) := hb1
      have hbV1 : Below W2.heap.size W2 V1 := below3 HS0.out.below hb1
      obtain ⟨d0, d1, d2, d3, d4, d5⟩ := HCell.out V1 hbV1
      have hwl := wait_len s
      rw [HOp.out] at hwl
      have HWl := Hid.mk' hwl
      clear hwl
      have HO1 := Hid.mk' hO1
      have HSq := Hid.mk' (HS0.out.later hb1)
      have hPm : pmayB n l s.ops (k : Nat) = true := by
        unfold pmayB
        rw [HMay.out, HOp.out]
        simp only [Bool.true_and, Bool.and_eq_true, Bool.not_eq_true', decide_eq_false_iff_not, List.all_eq_true]
        exact ⟨⟨by omega, by omega⟩, HDI.out.ok⟩
      have af := after_ok n l p cp s.ops (some ⟨wr.heap.size, 0, none⟩) k k keep ka kc V1 (by omega) (HI3.out.later hbV1) (by rw [HOp.out]; omega) hO1 (by rw [HOp.out]; exact Nat.le_refl _) (by rw [HMk.out]; omega) (bools_later (by rw [HMk.out]; exact HK3.out) hbV1) hPm HCl.out HDI.out.can
      rw [HOp.out, HMk.out, show s.ops.take k = s.ops from List.take_of_length_le (by rw [HOp.out]; exact Nat.le_refl _)] at af
      have HAf := Hid.mk' af
      generalize hg6 : wr.heap.size = g6 at *
      clear HH c0w c1w c2w c3w c4w c5w hO1 hb1 hPm af
      go_wp2_with (first | (go_at_call 21; fail))
      refine HAf.out.mono ?_
      rintro e V2 ⟨gw, lb, rfl, hIb, hrw, hgw, hb2⟩
      have HIb := Hid.mk' hIb
      have hlb := img_len HN.out hIb
      have hb3 := below_new V2 (.cells #[.int .i64 n, .slice (some ⟨gw, 0, none⟩) lb.length lb.length] 24)
      have hG3 := heap_alloc_new V2 (.cells #[.int .i64 n, .slice (some ⟨gw, 0, none⟩) lb.length lb.length] 24)
      have hrw3 := heap_kept hrw hb3
      have hb12 := below3 hb2 hb3
      have hV1g : g6 < V1.heap.size ∨ k = 0 := by
        by_cases h0 : k = 0
        · exact .inr h0
        · obtain ⟨b5, o5, e5, hl5, _⟩ := HO1.out (by rw [HOp.out]; omega)
          injection e5 with e5
          injection e5 with e6
          subst e6
          exact .inl hl5
      obtain ⟨V3, hV3⟩ : ∃ V3, V3 = V2.alloc (.cells #[.int .i64 n, .slice (some ⟨gw, 0, none⟩) lb.length lb.length] 24) := ⟨_, rfl⟩
      have HV3 : Hid (V3 = V2.alloc (.cells #[.int .i64 n, .slice (some ⟨gw, 0, none⟩) lb.length lb.length] 24)) := hV3
      rw [← hV3] at hb3 hG3 hrw3 hb12
      have hO3 : OpsAt V3 (some ⟨g6, 0, none⟩) s.ops := fun h0 => by
        obtain ⟨b5, o5, e5, hl5, hR5⟩ := HO1.out h0
        exact ⟨b5, o5, e5, Nat.lt_of_lt_of_le hl5 hb12.size, hR5.later hb12 hl5⟩
      have hpn := pending_any s.ops (some ⟨g6, 0, none⟩) k (k : Nat) V3 (by rw [HOp.out]; omega) hO3 (by rw [HOp.out]; exact Nat.le_refl _)
      rw [HOp.out, show upTo k (k : Nat) = k by unfold upTo; omega, show s.ops.take k = s.ops from List.take_of_length_le (by rw [HOp.out]; exact Nat.le_refl _)] at hpn
      have HPn := Hid.mk' hpn
      have HR3 : Hid (Below V1.heap.size V1 V3 ∧ V3.heap[V2.heap.size]? = some (.cells #[.int .i64 n, .slice (some ⟨gw, 0, none⟩) lb.length lb.length] 24) ∧ V3.heap[gw]? = some (.cells (celCells lb).toArray 44) ∧ V1.heap.size ≤ gw ∧ V1.heap.size ≤ V2.heap.size ∧ OpsAt V3 (some ⟨g6, 0, none⟩) s.ops) := ⟨hb12, hG3, hrw3, hgw, hb2.size, hO3⟩
      generalize hg7 : V2.heap.size = g7 at *
      clear HAf hpn hIb hrw hgw hb2 hb3 hG3 hrw3 hb12 hO3 hV3 hV1g d0 d1 d2 d3 d4 d5
      go_wp2_with (first | (go_at_call 27; fail))
      rw [← HV3.out]
      refine HPn.out.mono ?_
      rintro e V4 ⟨v8, rfl, hr8, hb4⟩
      have HB4 : Hid (Below V1.heap.size V1 V4 ∧ Below V3.heap.size V3 V4) := ⟨below3 HR3.out.1 hb4, hb4⟩
      have hSp := (HSq.out.take (ks := []) HB4.out.1 fun p hp => absurd hp List.not_mem_nil).pends (by have := HWl.out; omega)
      have hpl : (pendL s.ops).length = s.wait.length := by rw [HDI.out.pend, List.length_map, List.length_range]
      obtain ⟨p8, c8, e8, hI8, _, _⟩ := ints_of_row hr8
      subst e8
      rw [hpl]
      have HI8 := Hid.mk' hI8
      have HSp := Hid.mk' hSp
      obtain ⟨dw, hdw⟩ : ∃ dw, s.wait.length = dw := ⟨_, rfl⟩
      obtain ⟨dd, hdd⟩ : ∃ dd, s.done.length = dd := ⟨_, rfl⟩
      rw [hdw] at HSp ⊢
      have HW2 : Hid (k = dd + dw) := by have := HWl.out; show k = dd + dw; omega
      have hdwk : dw ≤ k := by have := HW2.out; omega
      have HDw : Hid (s.wait.length = dw ∧ s.done.length = dd) := ⟨hdw, hdd⟩
      clear hr8 hb4 hSp hpl hI8 HPn hdw hdd
      go_wp2_with (first | (go_at_call 35; fail))
      refine HSp.out.mono ?_
      rintro e V5 ⟨rfl, hr9, hb5⟩
      have HB5 : Hid (Below V4.heap.size V4 V5) := hb5
      have hbV5 : Below W2.heap.size W2 V5 := below3 (below3 HSq.out.below HB4.out.1) hb5
      obtain ⟨f0, f1, f2, f3, f4, f5⟩ := HCell.out V5 hbV5
      have HR9 := Hid.mk' hr9
      generalize hg9 : V4.heap.size = g9 at *
      clear HSp hr9 hb5
      go_wp2
      go_loopw [10] (fun s10 wx => ∃ j : Nat, j ≤ dw ∧ s10 = .int .i64 j ∧ Hid (Below V5.heap.size V5 wx)) (fun s10 _ => dw - (intOf s10).toNat)
      case atStart => exact ⟨0, by omega, rfl, Below.refl _ _⟩
      case round =>
        obtain ⟨j, hj, rfl, HJ⟩ := hrel
        by_cases hj2 : (j : Int) < dw
        · have hjl : j < s.wait.length := by rw [HDw.out.1]; omega
          have hgj : s.wait[j]? = some s.wait[j] := List.getElem?_eq_getElem hjl
          have hat := wait_at hgj
          generalize s.wait[j] = cc at hgj hat
          obtain ⟨y, hy⟩ : ∃ y, cc.1 = y := ⟨_, rfl⟩
          obtain ⟨b8, o8, e8, hl8, C8⟩ := HI8.out (by rw [HDI.out.pend, List.length_map, List.length_range]; have := HDw.out.1; omega)
          subst e8
          obtain ⟨jj, hjj⟩ : ∃ jj, dd + j = jj := ⟨_, rfl⟩
          have hP8 : (pendL s.ops)[j]? = some (jj : Int) := by
            rw [HDI.out.pend, List.getElem?_map, List.getElem?_range (by have := HDw.out.1; omega), HDw.out.2, ← hjj]
            rfl
          obtain ⟨b6, o6, e6, hl6, hR6⟩ := HR3.out.2.2.2.2.2 (by rw [HOp.out]; have := HW2.out; omega)
          injection e6 with e6
          injection e6 with e7 e8
          subst e7 e8
          rw [HDw.out.2, hjj] at hat
          have hA6 := (hR6 _ _ hat).2.1
          rw [Nat.zero_add] at hA6
          have HBd := Hid.mk' (Below.drew HJ.out)
          have h45 : Below V4.heap.size V4 V5 := by have q := HB5.out; rw [← hg9] at q; exact q
          have sP : ∀ u, Below V5.heap.size V5 u → u.cell? ⟨b8, o8 + j, none⟩ = some (.int .i64 (jj : Int)) := fun u hu => ((below3 h45 hu).cell (p := ⟨b8, o8 + j, none⟩) hl8).trans (C8 j _ hP8)
          have sA : ∀ u, Below V5.heap.size V5 u → u.cell? ⟨g6, jj * 1026 + 1, none⟩ = some (.int .i64 y) := fun u hu => by
            rw [((below3 HB4.out.2 (below3 h45 hu)).cell (p := ⟨g6, jj * 1026 + 1, none⟩) hl6), hA6, ← hy]
            rfl
          have sT : ∀ u, Below V5.heap.size V5 u → u.cell? ⟨g9, j, none⟩ = some (.int .i64 y) := fun u hu => by
            rw [Joins.cell_of_block (heap_kept HR9.out hu) j, iRow_get _ _ _ (by omega)]
            unfold posF
            rw [hgj]
            exact congrArg (fun z => some (Value.int .i64 z)) hy
          have hmk6 : jj < k := by have := HW2.out; omega
          clear hjj hgj hat hP8 hR6 hA6 C8 HJ
          go_wp2
          refine wp_region_ord (S := fun u => Below V5.heap.size V5 u) [(0, true), (1, true), (2, true), (3, true), (4, true), (5, true), (6, true), (7, true), (8, true), (9, true), (10, true), (11, true), (12, true)]
            (by kernel_rfl) rfl (by kernel_rfl) (fun d _ _ _ _ h => by cases d <;> exact h) HBd.out ?_
          simp only [inOrd, List.getElem?_cons_zero, List.getElem?_cons_succ]
          refine wpOrd_yield (v := .slice (some ⟨g6, 0, none⟩) k k) rfl (fun u _ => exec_mv rfl rfl) ?_
          simp only [Act.put, List.setIfInBounds_toArray, List.set_cons_succ, List.set_cons_zero]
          refine wpOrd_yield (v := .slice (some ⟨b8, o8, none⟩) dw c8) rfl (fun u _ => exec_mv rfl rfl) ?_
          simp only [Act.put, List.setIfInBounds_toArray, List.set_cons_succ, List.set_cons_zero]
          refine wpOrd_yield (v := .int .i64 (j : Int)) rfl (fun u _ => exec_mv rfl rfl) ?_
          simp only [Act.put, List.setIfInBounds_toArray, List.set_cons_succ, List.set_cons_zero]
          refine wpOrd_yield (v := .pointer (some ⟨b8, o8 + j, none⟩)) rfl (fun u hu => by go_simp) ?_
          simp only [Act.put, List.setIfInBounds_toArray, List.set_cons_succ, List.set_cons_zero]
          refine wpOrd_yield (v := .int .i64 (jj : Int)) rfl (fun u hu => by have := sP u hu; go_simp) ?_
          simp only [Act.put, List.setIfInBounds_toArray, List.set_cons_succ, List.set_cons_zero]
          refine wpOrd_yield (v := .pointer (some ⟨g6, jj * 1026, none⟩)) rfl (fun u hu => by go_simp) ?_
          simp only [Act.put, List.setIfInBounds_toArray, List.set_cons_succ, List.set_cons_zero]
          refine wpOrd_yield (v := .pointer (some ⟨g6, jj * 1026 + 1, none⟩)) rfl (fun u hu => by go_simp) ?_
          simp only [Act.put, List.setIfInBounds_toArray, List.set_cons_succ, List.set_cons_zero]
          refine wpOrd_yield (v := .int .i64 y) rfl (fun u hu => by have := sA u hu; go_simp) ?_
          simp only [Act.put, List.setIfInBounds_toArray, List.set_cons_succ, List.set_cons_zero]
          refine wpOrd_yield (v := .slice (some ⟨g9, 0, none⟩) dw dw) rfl (fun u _ => exec_mv rfl rfl) ?_
          simp only [Act.put, List.setIfInBounds_toArray, List.set_cons_succ, List.set_cons_zero]
          refine wpOrd_yield (v := .int .i64 (j : Int)) rfl (fun u _ => exec_mv rfl rfl) ?_
          simp only [Act.put, List.setIfInBounds_toArray, List.set_cons_succ, List.set_cons_zero]
          refine wpOrd_yield (v := .pointer (some ⟨g9, j, none⟩)) rfl (fun u hu => by go_simp) ?_
          simp only [Act.put, List.setIfInBounds_toArray, List.set_cons_succ, List.set_cons_zero]
          refine wpOrd_yield (v := .int .i64 y) rfl (fun u hu => by have := sT u hu; go_simp) ?_
          simp only [Act.put, List.setIfInBounds_toArray, List.set_cons_succ, List.set_cons_zero]
          refine wpOrd_yield (v := .bool false) rfl (fun u hu => by go_simp) ?_
          simp only [Act.put, List.setIfInBounds_toArray, List.set_cons_succ, List.set_cons_zero]
          refine wpOrd_nil ?_
          clear sP sA sT
          go_wp2
          exact ⟨⟨j + 1, by omega, by go_num, HBd.out⟩, by simp [intOf]; omega⟩
        · obtain rfl : j = dw := by omega
          have h45 : Below V4.heap.size V4 V5 := by have q := HB5.out; rw [← hg9] at q; exact q
          have hall3 : Below V3.heap.size V3 wr.drew := Below.drew (below3 HB4.out.2 (below3 h45 HJ.out))
          have hall : Below V1.heap.size V1 wr.drew := below3 HR3.out.1 hall3
          have HSk : Hid (Sits W2 wr.drew d s [(g7, .cells #[.int .i64 n, .slice (some ⟨gw, 0, none⟩) lb.length lb.length] 24), (gw, .cells (celCells lb).toArray 44)]) := HSq.out.take hall fun p hp => by
            simp only [List.mem_cons, List.not_mem_nil, or_false] at hp
            rcases hp with rfl | rfl
            · exact ⟨heap_kept HR3.out.2.1 hall3, by show _ ≤ g7; have := HR3.out.2.2.2.2.1; omega⟩
            · exact ⟨heap_kept HR3.out.2.2.1 hall3, HR3.out.2.2.2.1⟩
          have hcr2 := sits_crash HSk.out (kv := .slice ka mk kc) (bools_later HK3.out HSk.out.below) (by rw [HDw.out.1]; omega) (by rw [HMk.out]; omega)
          have HCr2 := Hid.mk' hcr2
          have sk : ∀ u, Below W2.heap.size W2 u ∧ u.heap[g7]? = some (.cells #[.int .i64 n, .slice (some ⟨gw, 0, none⟩) lb.length lb.length] 24) → u.cell? ⟨qq, 4, none⟩ = some (.slice ka mk kc) := fun u hu => (HCell.out u hu.1).2.2.2.2.1
          have sw0 : ∀ u, Below W2.heap.size W2 u ∧ u.heap[g7]? = some (.cells #[.int .i64 n, .slice (some ⟨gw, 0, none⟩) lb.length lb.length] 24) → u.cell? ⟨g7, 0, none⟩ = some (.int .i64 n) := fun u hu => Joins.cell_of_block hu.2 0
          have sw1 : ∀ u, Below W2.heap.size W2 u ∧ u.heap[g7]? = some (.cells #[.int .i64 n, .slice (some ⟨gw, 0, none⟩) lb.length lb.length] 24) → u.cell? ⟨g7, 1, none⟩ = some (.slice (some ⟨gw, 0, none⟩) lb.length lb.length) := fun u hu => Joins.cell_of_block hu.2 1
          have HBw : Hid (Below w.heap.size w W2) := by have q := HB3.out; rw [← HQQ.out] at q; exact q
          clear hcr2 hall hall3 h45 HJ
          go_wp2
          refine wp_region_ord (S := fun u => Below W2.heap.size W2 u ∧ u.heap[g7]? = some (.cells #[.int .i64 n, .slice (some ⟨gw, 0, none⟩) lb.length lb.length] 24)) [(0, true), (1, true), (2, true), (3, false), (4, true), (5, true), (6, true), (8, true), (7, false), (9, false), (10, true), (11, true)]
            (by kernel_rfl) rfl (by kernel_rfl) (fun d _ _ _ _ h => by cases d <;> exact h) ⟨HSk.out.below, HSk.out.blk (List.mem_cons_self ..)⟩ ?_
          simp only [inOrd, List.getElem?_cons_zero, List.getElem?_cons_succ]
          refine wpOrd_yield (v := .pointer (some ⟨d, 0, none⟩)) rfl (fun u _ => exec_mv rfl rfl) ?_
          simp only [Act.put, List.setIfInBounds_toArray, List.set_cons_succ, List.set_cons_zero]
          refine wpOrd_yield (v := .pointer (some ⟨qq, 4, none⟩)) rfl (fun u hu => by go_simp) ?_
          simp only [Act.put, List.setIfInBounds_toArray, List.set_cons_succ, List.set_cons_zero]
          refine wpOrd_yield (v := .slice ka mk kc) rfl (fun u hu => by have := sk u hu; go_simp) ?_
          simp only [Act.put, List.setIfInBounds_toArray, List.set_cons_succ, List.set_cons_zero]
          refine wpOrd_call rfl 36 _ _ rfl Try.call36 [.pointer (some ⟨d, 0, none⟩), .slice ka mk kc] rfl ?_
          refine HCr2.out.mono ?_
          rintro e X1 ⟨rfl, hx1⟩
          have HX1 := Hid.mk' hx1
          refine ⟨_, rfl, ⟨hx1.below, hx1.blk (List.mem_cons_self ..)⟩, ?_⟩
          clear hx1
          simp only [Act.put, List.setIfInBounds_toArray, List.set_cons_succ, List.set_cons_zero]
          refine wpOrd_yield (v := .bool true) rfl (fun u hu => by go_simp) ?_
          simp only [Act.put, List.setIfInBounds_toArray, List.set_cons_succ, List.set_cons_zero]
          refine wpOrd_yield (v := .bool true) rfl (fun u _ => exec_mv rfl rfl) ?_
          simp only [Act.put, List.setIfInBounds_toArray, List.set_cons_succ, List.set_cons_zero]
          refine wpOrd_yield (v := .pointer (some ⟨d, 0, none⟩)) rfl (fun u _ => exec_mv rfl rfl) ?_
          simp only [Act.put, List.setIfInBounds_toArray, List.set_cons_succ, List.set_cons_zero]
          refine wpOrd_yield (v := .agg #[.int .i64 n, .slice (some ⟨gw, 0, none⟩) lb.length lb.length]) rfl (fun u hu => by have := sw0 u hu; have := sw1 u hu; go_simp) ?_
          simp only [Act.put, List.setIfInBounds_toArray, List.set_cons_succ, List.set_cons_zero]
          refine wpOrd_call rfl 37 _ _ rfl Try.call37 [.pointer (some ⟨d, 0, none⟩)] rfl ?_
          refine (sits_image HX1.out).mono ?_
          rintro e X2 ⟨gi, la, rfl, hImg, hri, _, hx2⟩
          have hn2 : (crashS s keep).n = n := by
            show (holdAll s (keptL s.wait keep)).n = n
            rw [holdAll_n]
            exact HDI.out.num
          obtain rfl := HDI.out.left keep hImg HIb.out
          rw [hn2]
          have hsm := same_any n la (some ⟨gi, 0, none⟩) la.length n la (some ⟨gw, 0, none⟩) la.length X2 (by have := hlb; omega) (by have := hlb; omega) (img_row hri) (img_row (hx2.blk (List.mem_cons_of_mem _ (List.mem_cons_self ..))))
          rw [show sameI n la n la = true by
            unfold sameI oneB
            rw [may_img HN.out HIb.out, (celsB_iff (img_can HIb.out) (img_can HIb.out)).2 rfl]
            simp] at hsm
          have HSm := Hid.mk' hsm
          have HX2 := Hid.mk' hx2
          refine ⟨_, rfl, ⟨hx2.below, hx2.blk (List.mem_cons_self ..)⟩, ?_⟩
          clear hx2 hsm hImg hri hn2
          simp only [Act.put, List.setIfInBounds_toArray, List.set_cons_succ, List.set_cons_zero]
          refine wpOrd_call rfl 23 _ _ rfl Try.call23 [.agg #[.int .i64 n, .slice (some ⟨gi, 0, none⟩) la.length la.length], .agg #[.int .i64 n, .slice (some ⟨gw, 0, none⟩) la.length la.length]] rfl ?_
          refine HSm.out.mono ?_
          rintro e X3 ⟨rfl, hx3⟩
          have HX3 := Hid.mk' (HX2.out.later hx3)
          refine ⟨_, rfl, ⟨HX3.out.below, HX3.out.blk (List.mem_cons_self ..)⟩, ?_⟩
          clear hx3
          simp only [Act.put, List.setIfInBounds_toArray, List.set_cons_succ, List.set_cons_zero]
          refine wpOrd_yield (v := .bool true) rfl (fun u hu => by go_simp) ?_
          simp only [Act.put, List.setIfInBounds_toArray, List.set_cons_succ, List.set_cons_zero]
          refine wpOrd_yield (v := .bool true) rfl (fun u hu => by go_simp) ?_
          simp only [Act.put, List.setIfInBounds_toArray, List.set_cons_succ, List.set_cons_zero]
          refine wpOrd_nil ?_
          clear sk sw0 sw1
          go_wp2
          go_ret
          exact ⟨rfl, below3 HBw.out HX3.out.below⟩
end Go.Proofs.Ytbnbbelkddbndaa
