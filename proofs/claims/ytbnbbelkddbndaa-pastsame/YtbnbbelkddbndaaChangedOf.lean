/- Changed: the walk. -/
import Derived.Test.YtbnbbelkddbndaaChanged
import Derived.Test.YtbnbbelkddbndaaLives
namespace Go.Proofs.Ytbnbbelkddbndaa
open Go.RowKit Go.Maps
theorem wpList_lookR {ops : Array Oper} {rest : List Oper} {o : Oper} {a : Act} {w : World} {Q : Exit → Act → World → Prop} {t : TypeId} (hgd : o.guard = none) (m x : Operand) (ho : o.op = Op.lookup t m x true) (M X V : Value) (hm : a.eval m = M) (hx : a.eval x = X)
    (hr : (Instr.lookup t M X true).run Try.prog w = .ok V w) (h : wpList Try.prog ops Q rest (a.put o.dst V) w) : wpList Try.prog ops Q (o :: rest) a w :=
  wpList_plain hgd fun _ hK => by
    unfold Oper.wp
    simp [execOp, ho, hm, hx, hr, Result.andThen]
    exact hK _ _ h
set_option maxRecDepth 20000 in
theorem changed_none (n : Int) (s : List Cel) (p : Option Addr) (cp : Nat) (m : Int) (t : List Cel) (q : Option Addr) (cq : Nat) (w : World) (hls : s.length < 9223372036854775807) (hlt : t.length < 9223372036854775807) (hs : ImgAt w p s) (ht : ImgAt w q t) (ho : oneB n s m t = false) :
    Calls Try.prog 28 #[.agg #[.int .i64 n, .slice p s.length cp], .agg #[.int .i64 m, .slice q t.length cq]] w fun e w' => e = .returned (.slice none 0 0) ∧ Below w.heap.size w w' := by
  have hB : Below w.heap.size w ((w.alloc (.cells #[.int .i64 n, .slice p s.length cp] 24)).alloc (.cells #[.int .i64 m, .slice q t.length cq] 24)) := (((Below.refl _ _).alloc (Nat.le_refl _) _).alloc (by simp) _)
  have h1 := one_any n s p cp m t q cq _ hls hlt (hs.later hB) (ht.later hB)
  rw [ho] at h1
  clear hs ht
  go_enter Try.func28, Try.ntmps28
  go_wp2_with (go_at_call 59; refine h1.mono ?_; rintro e W1 ⟨rfl, hb1⟩)
  go_ret
  exact ⟨rfl, below3 hB hb1⟩
set_option maxRecDepth 20000 in
set_option maxHeartbeats 1000000 in
theorem changed_ok (n : Int) (s : List Cel) (p : Option Addr) (cp : Nat) (t : List Cel) (q : Option Addr) (cq : Nat) (w : World) (hls : s.length < 9223372036854775807) (hlt : t.length < 9223372036854775807) (hs : ImgAt w p s) (ht : ImgAt w q t) (hms : mayB n s = true) (hmt : mayB n t = true) (hcs : ∀ c ∈ s, Can c.2) (hct : ∀ c ∈ t, Can c.2) :
    Calls Try.prog 28 #[.agg #[.int .i64 n, .slice p s.length cp], .agg #[.int .i64 n, .slice q t.length cq]] w fun e w' => ∃ (g cap : Nat) (zs : List Int), e = .returned (.slice (some ⟨g, 0, none⟩) zs.length cap) ∧ (∀ j, j < zs.length → w'.cell? ⟨g, j, none⟩ = some (.int .i64 (zs.getD j 0))) ∧ zs.Pairwise (fun a b => a < b) ∧ (∀ x, x ∈ zs ↔ atL s x ≠ atL t x) ∧ zs.length ≤ 1048576 ∧ w.heap.size ≤ g ∧ g < w'.heap.size ∧ Below w.heap.size w w' := by
  have hB : Below w.heap.size w ((w.alloc (.cells #[.int .i64 n, .slice p s.length cp] 24)).alloc (.cells #[.int .i64 n, .slice q t.length cq] 24)) := (((Below.refl _ _).alloc (Nat.le_refl _) _).alloc (by simp) _)
  have hG : ((w.alloc (.cells #[.int .i64 n, .slice p s.length cp] 24)).alloc (.cells #[.int .i64 n, .slice q t.length cq] 24)).heap[w.heap.size + 1]? = some (.cells #[.int .i64 n, .slice q t.length cq] 24) := by
    have := heap_alloc_new (w.alloc (.cells #[.int .i64 n, .slice p s.length cp] 24)) (.cells #[.int .i64 n, .slice q t.length cq] 24)
    rwa [show (w.alloc (.cells #[.int .i64 n, .slice p s.length cp] 24)).heap.size = w.heap.size + 1 by simp] at this
  have hG0 : ((w.alloc (.cells #[.int .i64 n, .slice p s.length cp] 24)).alloc (.cells #[.int .i64 n, .slice q t.length cq] 24)).heap[w.heap.size]? = some (.cells #[.int .i64 n, .slice p s.length cp] 24) := heap_kept (heap_alloc_new w _) (below_new _ _)
  have h1 := one_any n s p cp n t q cq _ hls hlt (hs.later hB) (ht.later hB)
  rw [show oneB n s n t = true by unfold oneB; rw [hms, hmt]; simp] at h1
  obtain ⟨rs, ss⟩ := may_parts hms hcs
  obtain ⟨rt, st⟩ := may_parts hmt hct
  have HSome : Hid (∀ k, (chgC (holdCs noC s) t k).isSome = true ↔ atL s k ≠ atL t k) := fun k => chg_some rs ss rt st k
  have HBs : Hid (∀ c ∈ t, inTop c.1 ∧ blankB c.2 = false) := fun c hc => by
    obtain ⟨b1, b2⟩ := may_bounds hmt
    obtain ⟨y1, y2, y3⟩ := b2 c hc
    exact ⟨inTop_bnd b1 ⟨y1, y2⟩, y3⟩
  have HS : Hid (ImgAt w p s) := hs
  have HT : Hid (ImgAt w q t) := ht
  clear hs ht rs ss rt st hcs hct hmt
  go_enter Try.func28, Try.ntmps28
  go_wp2_with (go_at_call 59; fail)
  refine h1.mono ?_
  rintro e W1 ⟨rfl, hb1⟩
  have hB1 := below3 hB hb1
  have hG1 := (hb1.block (w.heap.size + 1) (Array.getElem?_eq_some_iff.1 hG).1).trans hG
  have hG2 := (hb1.block w.heap.size (Array.getElem?_eq_some_iff.1 hG0).1).trans hG0
  have j0 : W1.cell? ⟨w.heap.size, 0, none⟩ = some (.int .i64 n) := Joins.cell_of_block hG2 0
  have j1 : W1.cell? ⟨w.heap.size, 1, none⟩ = some (.slice p s.length cp) := Joins.cell_of_block hG2 1
  have hN := byNumber_of n s p cp W1 hls (HS.out.later hB1) hms
  have hlt1 : w.heap.size + 1 < W1.heap.size := (Array.getElem?_eq_some_iff.1 hG1).1
  clear h1 hb1 hG hG0 hG2 hB HS
  go_wp2_with (go_at_call 54; fail)
  refine hN.mono ?_
  rintro e W2 ⟨mb, rfl, hP2, hmb, hb2⟩
  have hG3 := (hb2.block (w.heap.size + 1) hlt1).trans hG1
  have k1 : W2.cell? ⟨w.heap.size + 1, 1, none⟩ = some (.slice q t.length cq) := Joins.cell_of_block hG3 1
  have HP2 : Hid (PtrsAt W1.heap.size W2 mb (chgC (holdCs noC s) (t.take 0))) := hP2
  have HB2 : Hid (Below w.heap.size w W2) := below3 hB1 hb2
  have HG3 : Hid (W2.heap[w.heap.size + 1]? = some (.cells #[.int .i64 n, .slice q t.length cq] 24)) := hG3
  have hs2 : W1.heap.size ≤ W2.heap.size := hb2.size
  clear hN hP2 hb2 hB1 hG1 hG3 j0 j1 hms
  go_wp2
  go_loopw [19] (fun s19 wx => ∃ k : Nat, k ≤ t.length ∧ s19 = .int .i64 k ∧ Hid (PtrsAt W1.heap.size wx mb (chgC (holdCs noC s) (t.take k))) ∧ Hid (Fr (fun i => i = mb) W2 wx)) (fun s19 _ => t.length - (intOf s19).toNat)
  case atStart => exact ⟨0, by omega, rfl, HP2.out, Fr.refl _ _⟩
  case round =>
    obtain ⟨k, hk, rfl, HP, HF⟩ := hrel
    clear HP2 k1
    have hGr : wr.heap[w.heap.size + 1]? = some (.cells #[.int .i64 n, .slice q t.length cq] 24) := (HF.out.block _ (by omega) (by omega)).trans HG3.out
    have hBr : Below w.heap.size w wr := HB2.out.trans (HF.out.below (fun i hi => by omega) (by have := HB2.out.size; omega))
    have k1 : wr.cell? ⟨w.heap.size + 1, 1, none⟩ = some (.slice q t.length cq) := Joins.cell_of_block hGr 1
    by_cases hk2 : (k : Int) < t.length
    · have hc : t[k]? = some t[k] := List.getElem?_eq_getElem (by omega)
      obtain ⟨b, off, rfl, hlt, hC⟩ := HT.out (by omega)
      have htk := take_snoc hc
      generalize t[k] = c at hc htk
      obtain ⟨hin, hbl⟩ := HBs.out c (List.mem_of_getElem? hc)
      obtain ⟨q1, q2⟩ := (hC.later hBr hlt) k c hc
      have hW := hin.wf
      have hnx : chgC (holdCs noC s) (t.take (k + 1)) = stepC (chgC (holdCs noC s) (t.take k)) c := by rw [htk, chgC_snoc]
      obtain ⟨m, hM, h2, h3⟩ := HP.out
      have hbB : b < W1.heap.size := by omega
      have HPut : Hid (hasB (chgC (holdCs noC s) (t.take k)) c = false → ∀ (u w' : World), Fr (fun _ => False) wr u → MapIs Try.prog 3 w' mb (fun y => if y = c.1 then some (.pointer (some ⟨b, off + k * 1025 + 1, none⟩)) else m y) → u.grownBy w' (some mb) → PtrsAt W1.heap.size w' mb (chgC (holdCs noC s) (t.take (k + 1))) ∧ Fr (fun i => i = mb) W2 w') := fun hh u w' hu hm' hg' => by
        have hF : Fr (fun i => i = mb) wr w' := (hu.mono fun _ _ q => q.elim).trans ((Fr.ofGrown hg').mono fun i _ q => by injection q with q; exact q.symm) fun _ _ q => q
        refine ⟨?_, HF.out.trans hF fun _ _ q => q⟩
        rw [hnx]
        unfold stepC
        rw [hh]
        exact putP h2 h3 hbB q2 hbl hm' fun i hi => hF.block i (by have := HF.out.size; omega) (by omega)
      have HDel : Hid (hasB (chgC (holdCs noC s) (t.take k)) c = true → ∀ (u w' : World), Fr (fun _ => False) wr u → MapIs Try.prog 3 w' mb (fun y => if y = c.1 then none else m y) → u.grownBy w' (some mb) → PtrsAt W1.heap.size w' mb (chgC (holdCs noC s) (t.take (k + 1))) ∧ Fr (fun i => i = mb) W2 w') := fun hh u w' hu hm' hg' => by
        have hF : Fr (fun i => i = mb) wr w' := (hu.mono fun _ _ q => q.elim).trans ((Fr.ofGrown hg').mono fun i _ q => by injection q with q; exact q.symm) fun _ _ q => q
        refine ⟨?_, HF.out.trans hF fun _ _ q => q⟩
        rw [hnx]
        unfold stepC
        rw [hh]
        exact strikeP h2 h3 hm' fun i hi => hF.block i (by have := HF.out.size; omega) (by omega)
      have hlk := look_ok Try.underlying3 keyed3 Try.underlying84 hM (zero89 wr) hW
      have HHas : Hid (hasB (chgC (holdCs noC s) (t.take k)) c = match chgC (holdCs noC s) (t.take k) c.1 with | some g => sameB g c.2 | none => false) := rfl
      cases hcv : chgC (holdCs noC s) (t.take k) c.1 with
      | none =>
        have hmc := h2 c.1 hcv
        rw [hmc] at hlk
        have hh : hasB (chgC (holdCs noC s) (t.take k)) c = false := by rw [HHas.out, hcv]
        have hput := HPut.out hh
        have HPut' : Hid (∀ (u w' : World), Fr (fun _ => False) wr u → MapIs Try.prog 3 w' mb (fun y => if y = c.1 then some (.pointer (some ⟨b, off + k * 1025 + 1, none⟩)) else m y) → u.grownBy w' (some mb) → PtrsAt W1.heap.size w' mb (chgC (holdCs noC s) (t.take (k + 1))) ∧ Fr (fun i => i = mb) W2 w') := hput
        have hMq : ∀ dr, MapIs Try.prog 3 ((wr.drewN dr).drew) mb m := fun dr => hM.kept rfl
        have q1q : ∀ dr, (wr.drewN dr).cell? ⟨b, off + k * 1025, none⟩ = some (.int .i64 c.1) := fun _ => q1
        have FrN : Hid (∀ dr, Fr (fun _ => False) wr ((wr.drewN dr).drew)) := fun dr => ⟨rfl, rfl, rfl, Nat.le_refl _, fun _ _ _ => rfl⟩
        clear hput HPut HDel h2 h3 HP HF hnx hcv hmc hh HHas hGr hBr hC htk hc q2 hM hbl
        go_wp2_with (at_lookup; refine wpList_lookR rfl _ _ rfl (.map (some mb)) (.int .i64 c.1) _ rfl rfl hlk ?_)
        go_quiet (fail)
        generalize hU : wr.drewN _ = U
        have q1U : U.cell? ⟨b, off + k * 1025, none⟩ = some (.int .i64 c.1) := by rw [← hU]; exact q1q _
        have hMU : MapIs Try.prog 3 U.drew mb m := by rw [← hU]; exact hMq _
        have FrU : Hid (Fr (fun _ => False) wr U.drew) := by rw [← hU]; exact FrN.out _
        clear hU q1q hMq FrN
        go_wp2
        go_still_tail 8, (by kernel_rfl)
        change wpList _ _ _ _ _ (World.drew _)
        refine wpList_putM rfl _ _ _ 84 rfl 89 Try.underlying3 keyed3 Try.underlying84 mb m rfl hMU c.1 hin rfl _ rfl ?_
        intro w' hm' hg'
        have n1 : Hid (PtrsAt W1.heap.size w' mb (chgC (holdCs noC s) (t.take (k + 1))) ∧ Fr (fun i => i = mb) W2 w') := HPut'.out _ w' FrU.out hm' hg'
        clear hm' hg' HPut' hMU hlk
        go_wp2
        exact ⟨⟨k + 1, by omega, by go_num, n1.out.1, n1.out.2⟩, by simp [intOf]; omega⟩
      | some f0 =>
        obtain ⟨g0, o0, hmc, hg0, hb0⟩ := h3 c.1 f0 hcv
        rw [hmc] at hlk
        have hh : hasB (chgC (holdCs noC s) (t.take k)) c = sameB f0 c.2 := by rw [HHas.out, hcv]
        obtain ⟨F0, hF0⟩ : ∃ F0, blk f0 = F0 := ⟨_, rfl⟩
        obtain ⟨F1, hF1⟩ : ∃ F1, blk c.2 = F1 := ⟨_, rfl⟩
        have ld0 : ∀ u, BlkAt u g0 o0 f0 ∧ BlkAt u b (off + k * 1025 + 1) c.2 → (Instr.loadAt 40 (.pointer (some ⟨g0, o0, none⟩))).run Try.prog u = .ok (.agg F0) u := fun u hu => by rw [← hF0]; exact loadM hu.1
        have ld1 : ∀ u, BlkAt u g0 o0 f0 ∧ BlkAt u b (off + k * 1025 + 1) c.2 → (Instr.loadAt 40 (.pointer (some ⟨b, off + k * 1025 + 1, none⟩))).run Try.prog u = .ok (.agg F1) u := fun u hu => by rw [← hF1]; exact loadM hu.2
        have hSt : BlkAt wr.drew g0 o0 f0 ∧ BlkAt wr.drew b (off + k * 1025 + 1) c.2 := ⟨hb0, q2⟩
        have hMd : MapIs Try.prog 3 wr.drew mb m := hM.kept rfl
        have hMdd : MapIs Try.prog 3 wr.drew.drew mb m := hM.kept rfl
        have q1d : wr.drew.cell? ⟨b, off + k * 1025, none⟩ = some (.int .i64 c.1) := q1
        cases hsb : sameB f0 c.2
        · rw [hsb] at hh
          have HPut' : Hid (∀ (u w' : World), Fr (fun _ => False) wr u → MapIs Try.prog 3 w' mb (fun y => if y = c.1 then some (.pointer (some ⟨b, off + k * 1025 + 1, none⟩)) else m y) → u.grownBy w' (some mb) → PtrsAt W1.heap.size w' mb (chgC (holdCs noC s) (t.take (k + 1))) ∧ Fr (fun i => i = mb) W2 w') := HPut.out hh
          have FrN : Hid (Fr (fun _ => False) wr wr.drew.drew) := ⟨rfl, rfl, rfl, Nat.le_refl _, fun _ _ _ => rfl⟩
          clear HPut HDel h2 h3 HP HF hnx hcv hmc hh HHas hGr hBr hC htk hc q2 hM hbl hb0
          go_wp2_with (at_lookup; refine wpList_lookR rfl _ _ rfl (.map (some mb)) (.int .i64 c.1) _ rfl rfl hlk ?_)
          refine wp_region_ord (S := fun u => BlkAt u g0 o0 f0 ∧ BlkAt u b (off + k * 1025 + 1) c.2) [(0, true), (1, true), (2, true), (3, true), (4, true), (5, true), (6, true), (7, true), (8, true), (9, true), (10, true)]
            (by kernel_rfl) rfl (by kernel_rfl) (fun d _ _ _ _ h => by cases d <;> exact h) hSt ?_
          simp only [inOrd, List.getElem?_cons_zero, List.getElem?_cons_succ]
          refine wpOrd_move rfl _ rfl ?_
          simp only [Act.put, List.setIfInBounds_toArray, List.set_cons_succ, List.set_cons_zero]
          refine wpOrd_move rfl _ rfl ?_
          simp only [Act.put, List.setIfInBounds_toArray, List.set_cons_succ, List.set_cons_zero]
          refine wpOrd_move rfl _ rfl ?_
          simp only [Act.put, List.setIfInBounds_toArray, List.set_cons_succ, List.set_cons_zero]
          refine wpOrd_yield (v := .pointer (some ⟨g0, o0, none⟩)) rfl (fun u hu => by go_simp) ?_
          simp only [Act.put, List.setIfInBounds_toArray, List.set_cons_succ, List.set_cons_zero]
          refine wpOrd_yield (v := .agg F0) rfl (fun u hu => exec_load rfl rfl (ld0 u hu)) ?_
          simp only [Act.put, List.setIfInBounds_toArray, List.set_cons_succ, List.set_cons_zero]
          refine wpOrd_move rfl _ rfl ?_
          simp only [Act.put, List.setIfInBounds_toArray, List.set_cons_succ, List.set_cons_zero]
          refine wpOrd_yield (v := .pointer (some ⟨b, off + k * 1025, none⟩)) rfl (fun u hu => by go_simp) ?_
          simp only [Act.put, List.setIfInBounds_toArray, List.set_cons_succ, List.set_cons_zero]
          refine wpOrd_yield (v := .pointer (some ⟨b, off + k * 1025 + 1, none⟩)) rfl (fun u hu => by go_simp) ?_
          simp only [Act.put, List.setIfInBounds_toArray, List.set_cons_succ, List.set_cons_zero]
          refine wpOrd_yield (v := .agg F1) rfl (fun u hu => exec_load rfl rfl (ld1 u hu)) ?_
          simp only [Act.put, List.setIfInBounds_toArray, List.set_cons_succ, List.set_cons_zero]
          refine wpOrd_yield (v := .bool false) rfl (fun u hu => exec_eq40 rfl rfl rfl hF0 hF1 hsb) ?_
          simp only [Act.put, List.setIfInBounds_toArray, List.set_cons_succ, List.set_cons_zero]
          refine wpOrd_yield (v := .bool false) rfl (fun u hu => by go_simp) ?_
          simp only [Act.put, List.setIfInBounds_toArray, List.set_cons_succ, List.set_cons_zero]
          refine wpOrd_nil ?_
          generalize hU : wr.drew = U
          rw [hU] at q1d hMdd FrN
          clear hU
          go_wp2
          go_still_tail 8, (by kernel_rfl)
          change wpList _ _ _ _ _ (World.drew _)
          refine wpList_putM rfl _ _ _ 84 rfl 89 Try.underlying3 keyed3 Try.underlying84 mb m rfl hMdd c.1 hin rfl _ rfl ?_
          intro w' hm' hg'
          have n1 : Hid (PtrsAt W1.heap.size w' mb (chgC (holdCs noC s) (t.take (k + 1))) ∧ Fr (fun i => i = mb) W2 w') := HPut'.out _ w' FrN.out hm' hg'
          clear hm' hg' HPut' hMdd hMd hlk
          go_wp2
          exact ⟨⟨k + 1, by omega, by go_num, n1.out.1, n1.out.2⟩, by simp [intOf]; omega⟩
        · rw [hsb] at hh
          have HDel' : Hid (∀ (u w' : World), Fr (fun _ => False) wr u → MapIs Try.prog 3 w' mb (fun y => if y = c.1 then none else m y) → u.grownBy w' (some mb) → PtrsAt W1.heap.size w' mb (chgC (holdCs noC s) (t.take (k + 1))) ∧ Fr (fun i => i = mb) W2 w') := HDel.out hh
          have FrN : Hid (Fr (fun _ => False) wr wr.drew) := ⟨rfl, rfl, rfl, Nat.le_refl _, fun _ _ _ => rfl⟩
          clear HPut HDel h2 h3 HP HF hnx hcv hmc hh HHas hGr hBr hC htk hc q2 hM hbl hb0
          go_wp2_with (at_lookup; refine wpList_lookR rfl _ _ rfl (.map (some mb)) (.int .i64 c.1) _ rfl rfl hlk ?_)
          refine wp_region_ord (S := fun u => BlkAt u g0 o0 f0 ∧ BlkAt u b (off + k * 1025 + 1) c.2) [(0, true), (1, true), (2, true), (3, true), (4, true), (5, true), (6, true), (7, true), (8, true), (9, true), (10, true)]
            (by kernel_rfl) rfl (by kernel_rfl) (fun d _ _ _ _ h => by cases d <;> exact h) hSt ?_
          simp only [inOrd, List.getElem?_cons_zero, List.getElem?_cons_succ]
          refine wpOrd_move rfl _ rfl ?_
          simp only [Act.put, List.setIfInBounds_toArray, List.set_cons_succ, List.set_cons_zero]
          refine wpOrd_move rfl _ rfl ?_
          simp only [Act.put, List.setIfInBounds_toArray, List.set_cons_succ, List.set_cons_zero]
          refine wpOrd_move rfl _ rfl ?_
          simp only [Act.put, List.setIfInBounds_toArray, List.set_cons_succ, List.set_cons_zero]
          refine wpOrd_yield (v := .pointer (some ⟨g0, o0, none⟩)) rfl (fun u hu => by go_simp) ?_
          simp only [Act.put, List.setIfInBounds_toArray, List.set_cons_succ, List.set_cons_zero]
          refine wpOrd_yield (v := .agg F0) rfl (fun u hu => exec_load rfl rfl (ld0 u hu)) ?_
          simp only [Act.put, List.setIfInBounds_toArray, List.set_cons_succ, List.set_cons_zero]
          refine wpOrd_move rfl _ rfl ?_
          simp only [Act.put, List.setIfInBounds_toArray, List.set_cons_succ, List.set_cons_zero]
          refine wpOrd_yield (v := .pointer (some ⟨b, off + k * 1025, none⟩)) rfl (fun u hu => by go_simp) ?_
          simp only [Act.put, List.setIfInBounds_toArray, List.set_cons_succ, List.set_cons_zero]
          refine wpOrd_yield (v := .pointer (some ⟨b, off + k * 1025 + 1, none⟩)) rfl (fun u hu => by go_simp) ?_
          simp only [Act.put, List.setIfInBounds_toArray, List.set_cons_succ, List.set_cons_zero]
          refine wpOrd_yield (v := .agg F1) rfl (fun u hu => exec_load rfl rfl (ld1 u hu)) ?_
          simp only [Act.put, List.setIfInBounds_toArray, List.set_cons_succ, List.set_cons_zero]
          refine wpOrd_yield (v := .bool true) rfl (fun u hu => exec_eq40 rfl rfl rfl hF0 hF1 hsb) ?_
          simp only [Act.put, List.setIfInBounds_toArray, List.set_cons_succ, List.set_cons_zero]
          refine wpOrd_yield (v := .bool true) rfl (fun u hu => by go_simp) ?_
          simp only [Act.put, List.setIfInBounds_toArray, List.set_cons_succ, List.set_cons_zero]
          refine wpOrd_nil ?_
          go_wp2_with (at_delete; refine wpList_delM rfl _ _ 84 rfl 89 Try.underlying3 keyed3 Try.underlying84 mb m rfl hMd c.1 hW rfl ?_; intro w' hm' hg')
          have n1 : Hid (PtrsAt W1.heap.size w' mb (chgC (holdCs noC s) (t.take (k + 1))) ∧ Fr (fun i => i = mb) W2 w') := HDel'.out _ w' FrN.out hm' hg'
          exact ⟨⟨k + 1, by omega, by go_num, n1.out.1, n1.out.2⟩, by simp [intOf]; omega⟩
    · obtain rfl : k = t.length := by omega
      have hP := HP.out
      rw [List.take_length] at hP
      obtain ⟨m, hM, h2, h3⟩ := hP
      have hRs := rising_of hM
      have HBr : Hid (Below w.heap.size w wr) := hBr
      have HMm : Hid (∀ x, (m x).isSome = true ↔ atL s x ≠ atL t x) := fun x => by
        rw [← HSome.out x]
        cases hcx : chgC (holdCs noC s) t x with
        | none => rw [h2 x hcx]; simp
        | some f => obtain ⟨g, off, z, _⟩ := h3 x f hcx; rw [z]; simp
      clear hM h2 h3 HP hGr hBr k1
      go_wp2_with (go_at_call 64; fail)
      refine hRs.mono ?_
      rintro e W3 ⟨g, cap, zs, rfl, hcs, hpw, hmem, hl, _, hg1, hg2, hb3⟩
      have HC : Hid (∀ j, j < zs.length → W3.cell? ⟨g, j, none⟩ = some (.int .i64 (zs.getD j 0))) := hcs
      have HPw : Hid (zs.Pairwise (fun a b => a < b)) := hpw
      have HMem : Hid (∀ x, x ∈ zs ↔ atL s x ≠ atL t x) := fun x => (hmem x).trans (HMm.out x)
      have HB3 : Hid (Below w.heap.size w W3) := below3 HBr.out hb3
      clear hcs hpw hmem hb3 hRs HMm
      go_wp2
      go_ret
      exact ⟨g, cap, zs, rfl, HC.out, HPw.out, HMem.out, hl, by have := HBr.out.size; omega, hg2, HB3.out⟩
end Go.Proofs.Ytbnbbelkddbndaa
