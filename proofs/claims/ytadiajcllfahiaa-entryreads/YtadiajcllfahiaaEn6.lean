/- Decode by the document: whatever the sixteen bytes. -/
import Derived.Test.YtadiajcllfahiaaEn5
namespace Go.Proofs.Ytadiajcllfahiaa
open Go.RowKit Go.Maps
structure De3 (w W : World) (f : Nat → Int) (i : Int) (s : ByteArray) : Prop where
  row : W.heap[w.heap.size]? = some (.cells (rowN .u8 f 16) 25)
  res : W.heap[w.heap.size + 1]? = some (.cells #[.int .u16 0, .string ⟨#[]⟩] 24)
  ent : W.heap[w.heap.size + 1 + 1]? = some (.cells #[.int .u16 i, .string s] 24)
  bel : Below w.heap.size w W
theorem De3.start (w : World) (f : Nat → Int) (i : Int) : De3 w (((w.alloc (.cells (rowN .u8 f 16) 25)).alloc (.cells #[.int .u16 0, .string ⟨#[]⟩] 24)).alloc (.cells #[.int .u16 i, .string ⟨#[]⟩] 24)) f i ⟨#[]⟩ := by
  refine ⟨heap_kept (heap_kept (heap_alloc_new _ _) (below_new _ _)) (below_new _ _), heap_kept (heap_two _ _ _) (below_new _ _), ?_, bel_al (bel_al (below_new _ _) _) _⟩
  have := heap_alloc_new ((w.alloc (.cells (rowN .u8 f 16) 25)).alloc (.cells #[.int .u16 0, .string ⟨#[]⟩] 24)) (.cells #[.int .u16 i, .string ⟨#[]⟩] 24)
  simpa using this
theorem De3.call {w W W' : World} {f : Nat → Int} {i : Int} {s : ByteArray} (h : De3 w W f i s) (hb : Below W.heap.size W W') : De3 w W' f i s := ⟨heap_kept h.row hb, heap_kept h.res hb, heap_kept h.ent hb, below_next h.bel hb⟩
theorem De3.set {w W : World} {f : Nat → Int} {i : Int} {s : ByteArray} (h : De3 w W f i s) (s' : ByteArray) : De3 w (W.setCell ⟨w.heap.size + 1 + 1, 1, none⟩ (.string s')) f i s' := by
  have hF := Fr.setCell W (w.heap.size + 1 + 1) 1 (.string s')
  refine ⟨(hF.block _ (Array.getElem?_eq_some_iff.1 h.row).1 (by omega)).trans h.row, (hF.block _ (Array.getElem?_eq_some_iff.1 h.res).1 (by omega)).trans h.res, ?_, h.bel.trans (hF.below (fun j q => by omega) h.bel.size)⟩
  rw [heap_setCell_same _ _ _ _ _ _ h.ent]
  rfl
section
variable {o : Oper} {a : Act} {W W' : World}
theorem exec_conv {src dst : TypeId} {x : Operand} {v r : Value} (ho : o.op = .convert src dst x) (hx : a.eval x = v) (hr : (convert src dst v).run Try.prog W = .ok r W) : (execOp a.eval o).run Try.prog W = .ok (.value r) W := by
  generalize a.eval = E at *
  unfold execOp
  simp only [ho, hx, Sem.run_bind, hr, Result.andThen_ok, Sem.run_pure]
theorem exec_sadd {x y : Operand} {p q : ByteArray} (ho : o.op = .binOp .add 9 x y 9) (hx : a.eval x = .string p) (hy : a.eval y = .string q) (hl : p.size + q.size ≤ 1000000) : (execOp a.eval o).run Try.prog W = .ok (.value (.string (p ++ q))) W := by
  have hm : ¬ (((p.size + q.size : Nat) : Int) > IntKind.i64.max) := by
    have : IntKind.i64.max = 9223372036854775807 := by decide
    omega
  generalize a.eval = E at *
  unfold execOp
  simp only [ho, hx, hy, binOp_string_add, Op.stringOp, if_neg hm]
  simp [eqGuard]
theorem wpOrd_act {ops : Array Oper} {Q : Exit → Act → World → Prop} {S : World → Prop} {r : List (Bool × Oper)} {W' : World} {v : Value} (hw : Region.wanted o (yielded ops a.tmps) = true) (hr : (execOp a.eval o).run Try.prog W = .ok (.value v) W') (hS : S W') (h : wpOrd Try.prog ops Q S r (a.put o.dst v) W') : wpOrd Try.prog ops Q S ((false, o) :: r) a W := by
  simp only [wpOrd, hw, if_true]
  unfold Oper.wp
  rw [hr]
  exact ⟨hS, h⟩
theorem wpOrd_do {ops : Array Oper} {Q : Exit → Act → World → Prop} {S : World → Prop} {r : List (Bool × Oper)} (hw : Region.wanted o (yielded ops a.tmps) = true) (hr : (execOp a.eval o).run Try.prog W = .ok .skip W') (hS : S W') (h : wpOrd Try.prog ops Q S r (a.put o.dst undef) W') : wpOrd Try.prog ops Q S ((false, o) :: r) a W := by
  simp only [wpOrd, hw, if_true]
  unfold Oper.wp
  rw [hr]
  exact ⟨hS, h⟩
theorem exec_st9 {x y : Operand} {g i : Nat} {p : ByteArray} {old : Value} (ho : o.op = .store 9 x y) (hx : a.eval x = .pointer (some ⟨g, i, none⟩)) (hy : a.eval y = .string p) (hc : W.cell? ⟨g, i, none⟩ = some old) (hf : W.frozen? ⟨g, i, none⟩ = false) : (execOp a.eval o).run Try.prog W = .ok .skip (W.setCell ⟨g, i, none⟩ (.string p)) := by
  generalize a.eval = E at *
  unfold execOp
  simp only [ho, hx, hy]
  simp [go_sem, hc, hf]
end
set_option maxRecDepth 20000 in
set_option maxHeartbeats 2000000 in
theorem refDec_any (w : World) (f : Nat → Int) (hf : Byt16 f) :
    Calls Try.prog 14 #[.agg (rowN .u8 f 16)] w fun e w' => e = .returned (.tuple #[.agg (decR f), .int .i64 (decE f)]) ∧ Below w.heap.size w w' := by
  have hi : 0 ≤ dcI f ∧ dcI f < 65536 := by
    have h0 := hf 0 (by omega)
    have h1 := hf 1 (by omega)
    unfold dcI
    omega
  have hz : (dcS f).size ≤ 14 := by unfold dcS; rw [txt_size]; exact upto_le _ _
  have HE : Hid _ := fun W => refEnc_any W (dcI f) hi (dcS f) (by omega)
  have HR : Hid (decR f = if dcOk f then enR (dcI f) (dcS f) else enR 0 ⟨#[]⟩) := rfl
  have HQ : Hid (decE f = if dcOk f then 0 else 4) := rfl
  have HO : Hid (dcOk f = (chV (dcI f) (dcS f) == 0 && sameN 16 (encP (dcI f) (dcS f)) f)) := rfl
  have HSt : Hid (∀ k, k ≤ 14 → (∀ j, j < k → ¬ nmF f j = 0) → (k < 14 → nmF f k = 0) → txt (nmF f) k = dcS f) := fun k h1 h2 h3 => by
    unfold dcS
    rw [upto_is (nmF f) 14 k h1 h2 h3]
  have f0 := hf 0 (by omega)
  have f1 := hf 1 (by omega)
  have hdi : dcI f = f 0 + 256 * f 1 := rfl
  have z := zeroEn
  have z2 := zero204
  have hr1 := heap_kept (heap_alloc_new w (.cells (rowN .u8 f 16) 25)) (below_new (w.alloc (.cells (rowN .u8 f 16) 25)) (.cells #[.int .u16 0, .string ⟨#[]⟩] 24))
  have r0 := cell_rowN (i := 0) hr1 (by omega)
  have r1 := cell_rowN (i := 1) hr1 (by omega)
  clear hr1
  have w0 : IntKind.u16.wrap (f 0) = f 0 := by rw [wrap_u16]; omega
  have w1 : IntKind.u16.wrap (f 1) = f 1 := by rw [wrap_u16]; omega
  have w2 : IntKind.u16.wrap (256 * f 1) = 256 * f 1 := by rw [wrap_u16]; omega
  have w3 : IntKind.u16.wrap (f 0 + 256 * f 1) = dcI f := by rw [wrap_u16, hdi]; omega
  have HF : Hid _ := hf
  have HD : Hid _ := De3.start w f (dcI f)
  clear hdi hi hz hf f0 f1
  generalize decR f = R at *
  generalize decE f = q0 at *
  generalize dcS f = s at *
  generalize dcI f = i at *
  go_enter Try.func14, Try.ntmps14
  go_wp2
  generalize ((w.alloc (.cells (rowN .u8 f 16) 25)).alloc (.cells #[.int .u16 0, .string ⟨#[]⟩] 24)).alloc (.cells #[.int .u16 i, .string ⟨#[]⟩] 24) = V at *
  clear r0 r1 w0 w1 w2 w3
  go_loopw [5] (fun s5 wx => ∃ k : Nat, k ≤ 14 ∧ Hid (∀ j, j < k → ¬ nmF f j = 0) ∧ s5 = .int .i64 ((2 + k : Nat) : Int) ∧ Hid (De3 w wx f i (txt (nmF f) k))) (fun s5 _ => 16 - (intOf s5).toNat)
  case atStart => exact ⟨0, by omega, fun j hj => absurd hj (Nat.not_lt_zero j), rfl, HD.out⟩
  case round =>
    obtain ⟨k, hk, HO', rfl, HT⟩ := hrel
    by_cases hk2 : k < 14 ∧ ¬ f (2 + k) = 0
    · obtain ⟨hk2, h0⟩ := hk2
      clear HD HSt HE HR HQ HO
      have HO : Hid _ := HO'.out
      clear HO'
      have rk := cell_rowN (i := 2 + k) HT.out.row (by omega)
      have hby := HF.out (2 + k) (by omega)
      have hstep := txt_step (nmF f) k
      have hpsz := txt_size (nmF f) k
      have hqe : (((toB (nmF f k)).toNat : Nat) : Int) = f (2 + k) := toB_nat hby
      have hcv : ∀ u : World, u.cell? ⟨w.heap.size, 2 + k, none⟩ = some (.int .u8 (f (2 + k))) → ∀ c, (convert 46 9 (.slice (some ⟨w.heap.size, 2 + k, none⟩) 1 c)).run Try.prog u = .ok (.string ⟨[toB (nmF f k)].toArray⟩) u := fun u hu c => by
        refine run_convert_bytes_back (P := Try.prog) u 46 9 5 ⟨w.heap.size, 2 + k, none⟩ c [toB (nmF f k)] Try.underlying46 Try.underlying5 Try.underlying9 fun j hj => ?_
        obtain rfl : j = 0 := by simp at hj; omega
        rw [Go.WideShapes.add_plain, Nat.add_zero, hu]
        simp only [List.getElem_cons_zero, hqe]
      clear hqe hby
      have hent := HT.out.ent
      have HT2 : Hid _ := HT.out.set (txt (nmF f) (k + 1))
      have g0 : (f (2 + k) == 0) = false := beq_eq_false_iff_ne.2 h0
      have g1 : (f (2 + k) != 0) = true := by rw [bne, g0]; rfl
      have HO2 : Hid (∀ j, j < k + 1 → ¬ nmF f j = 0) := fun j hj => by
        by_cases e : j = k
        · subst e; exact h0
        · exact HO.out j (by omega)
      have HFk : Hid (∀ {W : World}, De3 w W f i (txt (nmF f) (k + 1)) → W.cell? ⟨w.heap.size, 2 + k, none⟩ = some (.int .u8 (f (2 + k)))) := fun h => cell_rowN (i := 2 + k) h.row (by omega)
      clear h0
      have hm16 : 2 + k < 16 := by omega
      have hmi : ((2 + k : Nat) : Int) < 16 := by omega
      generalize f (2 + k) = q at *
      have hb1 : (⟨[toB (nmF f k)].toArray⟩ : ByteArray).size = 1 := rfl
      generalize (⟨[toB (nmF f k)].toArray⟩ : ByteArray) = b1 at *
      go_upto_region 5 with fail
      have c1 : wr.cell? ⟨w.heap.size + 1 + 1, 1, none⟩ = some (.string (txt (nmF f) k)) := Joins.cell_of_block hent 1
      refine wp_region_ord (S := fun u => u.cell? ⟨w.heap.size, 2 + k, none⟩ = some (.int .u8 q)) [(0, true), (2, true), (3, true), (4, true), (5, true), (6, true), (1, false), (7, true), (8, true), (9, false)] (by kernel_rfl) rfl (by kernel_rfl) (fun d _ _ _ _ h => by cases d <;> exact h) rk ?_
      simp only [inOrd, List.getElem?_cons_zero, List.getElem?_cons_succ]
      refine wpOrd_yield (v := .pointer (some ⟨w.heap.size + 1 + 1, 1, none⟩)) rfl (fun u _ => by go_simp) ?_
      simp only [Act.put, List.setIfInBounds_toArray, List.set_cons_succ, List.set_cons_zero]
      refine wpOrd_yield (v := .int .i64 (2 + (k : Int))) rfl (fun u _ => exec_mv rfl rfl) ?_
      simp only [Act.put, List.setIfInBounds_toArray, List.set_cons_succ, List.set_cons_zero]
      refine wpOrd_yield (v := .int .i64 (2 + (k : Int))) rfl (fun u _ => exec_mv rfl rfl) ?_
      simp only [Act.put, List.setIfInBounds_toArray, List.set_cons_succ, List.set_cons_zero]
      refine wpOrd_yield (v := .int .i64 (2 + (k : Int) + 1)) rfl (fun u _ => by have e : IntKind.i64.wrap (2 + (k : Int) + 1) = 2 + (k : Int) + 1 := (by rw [IntKind.wrap_i64]; omega); go_simp) ?_
      simp only [Act.put, List.setIfInBounds_toArray, List.set_cons_succ, List.set_cons_zero]
      refine wpOrd_yield (v := .slice (some ⟨w.heap.size, 2 + k, none⟩) 1 (16 - (2 + k))) rfl (fun u _ => by
        have t1 : (2 + (k : Int)).toNat = 2 + k := by omega
        have t2 : (2 + (k : Int) + 1).toNat = 2 + k + 1 := by omega
        have t3 : 2 + k + 1 - (2 + k) = 1 := by omega
        have t4 : 0 ≤ 2 + (k : Int) + 1 ∧ 2 + (k : Int) + 1 ≤ 16 := by omega
        have t5 : 0 ≤ 2 + (k : Int) ∧ 2 + (k : Int) ≤ 2 + (k : Int) + 1 := by omega
        go_simp
        omega) ?_
      simp only [Act.put, List.setIfInBounds_toArray, List.set_cons_succ, List.set_cons_zero]
      refine wpOrd_yield (v := .string b1) rfl (fun u hu => exec_conv rfl rfl (hcv u hu (16 - (2 + k)))) ?_
      simp only [Act.put, List.setIfInBounds_toArray, List.set_cons_succ, List.set_cons_zero]
      have c1d : wr.drew.cell? ⟨w.heap.size + 1 + 1, 1, none⟩ = some (.string (txt (nmF f) k)) := c1
      have rkd : wr.drew.cell? ⟨w.heap.size, 2 + k, none⟩ = some (.int .u8 q) := rk
      refine wpOrd_act (v := .string (txt (nmF f) k)) (W' := wr.drew) rfl (by go_simp) rkd ?_
      simp only [Act.put, List.setIfInBounds_toArray, List.set_cons_succ, List.set_cons_zero]
      refine wpOrd_yield (v := .string (txt (nmF f) k ++ b1)) rfl (fun u _ => exec_sadd rfl rfl rfl (by omega)) ?_
      simp only [Act.put, List.setIfInBounds_toArray, List.set_cons_succ, List.set_cons_zero]
      refine wpOrd_yield (v := .pointer (some ⟨w.heap.size + 1 + 1, 1, none⟩)) rfl (fun u _ => by go_simp) ?_
      simp only [Act.put, List.setIfInBounds_toArray, List.set_cons_succ, List.set_cons_zero]
      rw [hstep]
      have HTd : Hid (De3 w (wr.drew.setCell ⟨w.heap.size + 1 + 1, 1, none⟩ (.string (txt (nmF f) (k + 1)))) f i (txt (nmF f) (k + 1))) := De3.set (W := wr.drew) ⟨HT.out.row, HT.out.res, HT.out.ent, HT.out.bel.drew⟩ _
      refine wpOrd_do (W' := wr.drew.setCell ⟨w.heap.size + 1 + 1, 1, none⟩ (.string (txt (nmF f) (k + 1)))) rfl (exec_st9 rfl rfl rfl c1d (frozen_row hent 1)) ?_ ?_
      · exact HFk.out HTd.out
      refine wpOrd_nil ?_
      clear HT HT2 hent c1 c1d rk rkd hcv hstep HFk
      generalize wr.drew.setCell ⟨w.heap.size + 1 + 1, 1, none⟩ (.string (txt (nmF f) (k + 1))) = X at *
      simp only [Act.put]
      go_wp2
      exact ⟨⟨k + 1, by omega, HO2, by go_num, HTd⟩, by simp [intOf]; omega⟩
    · have hsd : txt (nmF f) k = s := HSt.out k hk HO'.out fun h => by
        by_cases e : f (2 + k) = 0
        · exact e
        · exact absurd ⟨h, e⟩ hk2
      have hT := HT.out
      rw [hsd] at hT
      clear HT hsd HD HSt
      have hent := hT.ent
      have c0 : wr.cell? ⟨w.heap.size + 1 + 1, 0, none⟩ = some (.int .u16 i) := Joins.cell_of_block hent 0
      have c1 : wr.cell? ⟨w.heap.size + 1 + 1, 1, none⟩ = some (.string s) := Joins.cell_of_block hent 1
      have hcut : ∀ Z : Prop, (((2 + k : Nat) : Int) < 16 → wr.cell? ⟨w.heap.size, 2 + k, none⟩ = some (.int .u8 0) → Z) → (¬ ((2 + k : Nat) : Int) < 16 → Z) → Z := fun Z h1 h2 => by
        by_cases hq : ((2 + k : Nat) : Int) < 16
        · refine h1 hq ?_
          have e : f (2 + k) = 0 := by
            by_cases e : f (2 + k) = 0
            · exact e
            · exact absurd ⟨by omega, e⟩ hk2
          have := cell_rowN (i := 2 + k) hT.row (by omega)
          rwa [e] at this
        · exact h2 hq
      have HT : Hid _ := hT
      have ce := HE.out wr
      clear hT hent HE HF HO' hk2
      refine hcut _ (fun hq rk0 => ?_) (fun hq => ?_)
      all_goals
        clear hcut
        go_wp2_with (first | (go_at_call 9; fail))
        refine ce.mono ?_
        rintro e W1 ⟨rfl, hb⟩
        clear ce c0 c1
        have hT1 := (HT.out.call hb).call (below_new W1 (.cells (rowN .u8 (encF i s) 16) 25))
        have hE1 : (W1.alloc (.cells (rowN .u8 (encF i s) 16) 25)).heap[W1.heap.size]? = some (.cells (rowN .u8 (encF i s) 16) 25) := heap_alloc_new _ _
        clear HT hb
        have hrw := hT1.row
        have hrs := hT1.res
        have d0 : (W1.alloc (.cells (rowN .u8 (encF i s) 16) 25)).cell? ⟨w.heap.size + 1 + 1, 0, none⟩ = some (.int .u16 i) := Joins.cell_of_block hT1.ent 0
        have d1 : (W1.alloc (.cells (rowN .u8 (encF i s) 16) 25)).cell? ⟨w.heap.size + 1 + 1, 1, none⟩ = some (.string s) := Joins.cell_of_block hT1.ent 1
        have HB : Hid _ := hT1.bel
        clear hT1
        by_cases hc : chV i s = 0
        · have hF := encF_ok hc
          rw [hF] at hE1 hrw hrs d0 d1 HB
          rw [hF, hc]
          clear hF
          rw [hc] at HO
          generalize encP i s = G at *
          cases hb : sameN 16 G f
          · have HO2 : Hid (R = enR 0 ⟨#[]⟩ ∧ q0 = 4) := by
              have e : dcOk f = false := by rw [HO.out, hb]; rfl
              exact ⟨by rw [HR.out, e]; rfl, by rw [HQ.out, e]; rfl⟩
            clear HO HR HQ
            go_wp2_with (first | (with_reducible refine isStoreR 25 ?_; refine wpList_stNew 25 rfl _ _ rfl W1.heap.size (rowN .u8 G 16) (rowN .u8 nought 16) 25 (by rw [rowN_size]; exact size204) (by rw [rowN_size, rowN_size]) (rowN_one _ _ _) rfl rfl rfl ?_) | (with_reducible refine isLoadR 25 ?_; refine wpList_ldR 25 Try.underlying25 rfl rfl _ rfl W1.heap.size rfl (rowN .u8 G 16) 25 (0, 0) (by rw [rowN_size]; exact size204) hE1 ?_) | (with_reducible refine isLoadR 25 ?_; refine wpList_ldR 25 Try.underlying25 rfl rfl _ rfl w.heap.size rfl (rowN .u8 f 16) 25 (0, 0) (by rw [rowN_size]; exact size204) hrw ?_) | (with_reducible refine isEqR 25 25 ?_; refine wpList_neN Try.underlying25 (by kernel_rfl) rfl _ _ rfl G f _ rfl rfl hb ?_) | (with_reducible refine isStoreR 24 ?_; refine wpList_stR 24 rfl _ _ rfl (w.heap.size + 1) #[.int .u16 0, .string ⟨#[]⟩] #[.int .u16 0, .string ⟨#[]⟩] 24 (enL_info 0 ⟨#[]⟩) (enL_two 0 0 ⟨#[]⟩ ⟨#[]⟩) (enL_one 0 ⟨#[]⟩) rfl rfl hrs ?_))
            exact retCT Try.underlying24 rfl rfl (w.heap.size + 1) (enR 0 ⟨#[]⟩) 24 (by rw [enR_size]; exact sizeEn) rfl (setRow_heap _ _ _ _ _ _ hrs) rfl ⟨by rw [HO2.out.1, HO2.out.2]; rfl, below_setRow HB.out (by omega) _⟩
          · have HO2 : Hid (R = enR i s ∧ q0 = 0) := by
              have e : dcOk f = true := by rw [HO.out, hb]; rfl
              exact ⟨by rw [HR.out, e]; rfl, by rw [HQ.out, e]; rfl⟩
            clear HO HR HQ
            go_wp2_with (first | (with_reducible refine isStoreR 25 ?_; refine wpList_stNew 25 rfl _ _ rfl W1.heap.size (rowN .u8 G 16) (rowN .u8 nought 16) 25 (by rw [rowN_size]; exact size204) (by rw [rowN_size, rowN_size]) (rowN_one _ _ _) rfl rfl rfl ?_) | (with_reducible refine isLoadR 25 ?_; refine wpList_ldR 25 Try.underlying25 rfl rfl _ rfl W1.heap.size rfl (rowN .u8 G 16) 25 (0, 0) (by rw [rowN_size]; exact size204) hE1 ?_) | (with_reducible refine isLoadR 25 ?_; refine wpList_ldR 25 Try.underlying25 rfl rfl _ rfl w.heap.size rfl (rowN .u8 f 16) 25 (0, 0) (by rw [rowN_size]; exact size204) hrw ?_) | (with_reducible refine isEqR 25 25 ?_; refine wpList_neN Try.underlying25 (by kernel_rfl) rfl _ _ rfl G f _ rfl rfl hb ?_) | (with_reducible refine isStoreR 24 ?_; refine wpList_stR 24 rfl _ _ rfl (w.heap.size + 1) #[.int .u16 i, .string s] #[.int .u16 0, .string ⟨#[]⟩] 24 (enL_info i s) (enL_two 0 i ⟨#[]⟩ s) (enL_one i s) rfl rfl hrs ?_))
            exact retCT Try.underlying24 rfl rfl (w.heap.size + 1) (enR i s) 24 (by rw [enR_size]; exact sizeEn) rfl (setRow_heap _ _ _ _ _ _ hrs) rfl ⟨by rw [HO2.out.1, HO2.out.2]; rfl, below_setRow HB.out (by omega) _⟩
        · have HO2 : Hid (R = enR 0 ⟨#[]⟩ ∧ q0 = 4) := by
            have e : dcOk f = false := by rw [HO.out, beq_eq_false_iff_ne.2 hc]; rfl
            exact ⟨by rw [HR.out, e]; rfl, by rw [HQ.out, e]; rfl⟩
          have g1 : (chV i s == 0) = false := beq_eq_false_iff_ne.2 hc
          have g2 : (chV i s != 0) = true := by rw [bne, g1]; rfl
          clear HO HR HQ
          generalize chV i s = c at *
          generalize encF i s = G at *
          go_wp2_with (first | (with_reducible refine isStoreR 25 ?_; refine wpList_stNew 25 rfl _ _ rfl W1.heap.size (rowN .u8 G 16) (rowN .u8 nought 16) 25 (by rw [rowN_size]; exact size204) (by rw [rowN_size, rowN_size]) (rowN_one _ _ _) rfl rfl rfl ?_) | (with_reducible refine isLoadR 25 ?_; refine wpList_ldR 25 Try.underlying25 rfl rfl _ rfl W1.heap.size rfl (rowN .u8 G 16) 25 (0, 0) (by rw [rowN_size]; exact size204) hE1 ?_) | (with_reducible refine isLoadR 25 ?_; refine wpList_ldR 25 Try.underlying25 rfl rfl _ rfl w.heap.size rfl (rowN .u8 f 16) 25 (0, 0) (by rw [rowN_size]; exact size204) hrw ?_) | (with_reducible refine isEqR 25 25 ?_; refine wpList_neN Try.underlying25 (by kernel_rfl) rfl _ _ rfl G f _ rfl rfl hb ?_) | (with_reducible refine isStoreR 24 ?_; refine wpList_stR 24 rfl _ _ rfl (w.heap.size + 1) #[.int .u16 0, .string ⟨#[]⟩] #[.int .u16 0, .string ⟨#[]⟩] 24 (enL_info 0 ⟨#[]⟩) (enL_two 0 0 ⟨#[]⟩ ⟨#[]⟩) (enL_one 0 ⟨#[]⟩) rfl rfl hrs ?_))
          exact retCT Try.underlying24 rfl rfl (w.heap.size + 1) (enR 0 ⟨#[]⟩) 24 (by rw [enR_size]; exact sizeEn) rfl (setRow_heap _ _ _ _ _ _ hrs) rfl ⟨by rw [HO2.out.1, HO2.out.2]; rfl, below_setRow HB.out (by omega) _⟩
end Go.Proofs.Ytadiajcllfahiaa
