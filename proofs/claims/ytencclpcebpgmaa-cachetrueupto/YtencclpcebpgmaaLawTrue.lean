/- CacheTrue: what was put is read, and stays off the disk; for every disk, size and steps, fewer than a million. -/
import Derived.Test.YtencclpcebpgmaaTrueInv
namespace Go.Proofs.Ytencclpcebpgmaa
open Go.RowKit Go.Maps
theorem exec_neB {a : Act} {o : Oper} {x y : Operand} {f : Nat → Int} (ho : o.op = .binOp .neq 59 x y 59) (hx : a.eval x = .agg (blk f)) (hy : a.eval y = .agg (blk f)) (u : World) : (execOp a.eval o).run Try.prog u = .ok (.value (.bool false)) u := by
  have h := eq25 f f u
  rw [show sameB f f = true by unfold sameB; simp] at h
  have e : (binOp .neq 59 (.agg (blk f)) (.agg (blk f))).run Try.prog u = .ok (.bool false) u := by
    generalize blk f = F at *
    simp only [binOp, Op.equal, Op.maxDepth, Sem.run_bind, h, Result.andThen_ok, Sem.run_pure, Bool.not_true]
  have eg : (eqGuard .neq 59 x y (.agg (blk f)) (.agg (blk f))).run Try.prog u = .ok () u := by unfold eqGuard; simp
  unfold execOp
  simp only [ho, hx, hy, Sem.run_bind, eg, e, Result.andThen_ok, Sem.run_pure]
theorem exec_mv {a : Act} {o : Oper} {x : Operand} {v : Value} {u : World} (ho : o.op = .move x) (hx : a.eval x = v) : (execOp a.eval o).run Try.prog u = .ok (.value v) u := by
  unfold execOp
  simp [ho, hx]
theorem exec_b59 {a : Act} {o : Oper} (ho : o.op = .build 59 #[]) (u : World) : (execOp a.eval o).run Try.prog u = .ok (.value (.agg (blk nought))) u := by
  have z25 := zero25
  have hb : (Instr.build 59 #[]).run Try.prog u = .ok (.agg (blk nought)) u := by simp [Instr.build, z25, run_underlying Try.underlying59, Try.sizeOf5, Instr.fill, Value.cells]
  generalize blk nought = Z at *
  unfold execOp
  simp only [ho, Array.map_empty, Sem.run_bind]
  simp only [hb, Result.andThen_ok, Sem.run_pure]
theorem exec_ld59 {a : Act} {o : Oper} {x : Operand} {u : World} (ho : o.op = .load 59 x) (g : Nat) (f : Nat → Int) (hx : a.eval x = .pointer (some ⟨g, 0, none⟩)) (hg : u.heap[g]? = some (.cells (blk f) 59)) : (execOp a.eval o).run Try.prog u = .ok (.value (.agg (blk f))) u := by
  have e := run_loadVar_row u g 59 59 (blk f) (0, 0) _ hg Try.underlying59 rfl (by rw [blk_size]; exact size25)
  unfold execOp
  simp only [ho, hx, Instr.loadAt, Instr.sureAddr, Sem.run_bind, Sem.run_pure, Result.andThen_ok, e]
theorem exec_ld44 {a : Act} {o : Oper} {u : World} {y : Operand} {q k : Nat} {v : Value} (ho : o.op = .load 44 y) (hx : a.eval y = .pointer (some ⟨q, k, none⟩)) (hc : u.cell? ⟨q, k, none⟩ = some v) : (execOp a.eval o).run Try.prog u = .ok (.value v) u := by
  have e : (loadVar 44 ⟨q, k, none⟩).run Try.prog u = .ok v u := by
    simp [go_sem, hc]
  unfold execOp
  simp only [ho, hx, Instr.loadAt, Instr.sureAddr, Sem.run_bind, Sem.run_pure, Result.andThen_ok, e]
theorem Hid.mk' {p : Prop} (h : p) : Hid p := h
set_option maxRecDepth 20000 in
set_option maxHeartbeats 8000000 in
theorem law_true (haw : ∀ u, Calls Try.prog 9 #[] u fun e w' => e = .returned (.bool true) ∧ Below u.heap.size u w') {w : World} (f : Int → Int) (hf : ∀ i, 0 ≤ f i ∧ f i < 65536) (x : Int) (hx : I64 x) (pa : Option Addr) (m cap : Nat) (hm : m ≤ 1048576) (hst : StepsAt w pa m) :
    Calls Try.prog 7 #[.agg (uRow f), .int .i64 x, .slice pa m cap] w fun e w' => e = .returned (.bool true) ∧ Below w.heap.size w w' := by
  have h1 := Int.emod_nonneg x (show (8 : Int) ≠ 0 by omega)
  have h2 := Int.emod_lt_of_pos x (show (0 : Int) < 8 by omega)
  obtain ⟨N, hN⟩ : ∃ N : Nat, 1 + x % 8 = (N : Int) := ⟨(1 + x % 8).toNat, by omega⟩
  have hN1 : 1 ≤ N ∧ N ≤ 8 := by omega
  have hwN : IntKind.i64.wrap (1 + x % 8) = (N : Int) := by rw [IntKind.wrap_i64]; omega
  have HPl : Hid (∀ u, Calls Try.prog 36 #[.int .i64 x, .int .i64 8] u fun e w' => e = .returned (.int .i64 (x % 8)) ∧ w' = u) := fun u => place_any x 8 hx (by omega) u
  have HST : Hid (StepsAt w pa m) := hst
  have HAW : Hid (∀ u, Calls Try.prog 9 #[] u fun e w' => e = .returned (.bool true) ∧ Below u.heap.size u w') := haw
  have hR3 := heap_alloc_new w (.cells (uRow f) 81)
  have HDk : Hid (Calls Try.prog 10 #[.slice (some ⟨w.heap.size, 0, none⟩) 16 16] (w.alloc (.cells (uRow f) 81)) fun e W' => ∃ (d : Nat) (rp : Option Addr), e = .returned (.tuple #[ptr d, .pointer rp, .bool true]) ∧ Sits w W' d (loadV 16 (imgL (fun i => f i) 16)) [(w.heap.size, .cells (uRow f) 81)]) := by
    refine (disks_any (W := w.alloc (.cells (uRow f) 81)) (some ⟨w.heap.size, 0, none⟩) 16 16 (fun i => f i) (by omega) fun i hi => ⟨w.heap.size, 0, rfl, by simp, ?_, (hf i).1, (hf i).2⟩).mono ?_
    · rw [Joins.cell_of_block hR3, Nat.zero_add, uRow_get f i hi]
    · rintro e W' ⟨L, rp, rfl, hD, hL, hb⟩
      have hs : (w.alloc (.cells (uRow f) 81)).heap.size = w.heap.size + 1 := by simp
      refine ⟨L.d, rp, rfl, L, rfl, hD, fun k hk => by have := hL k hk; omega, below_next (below_new _ _) hb, fun p hp => ?_⟩
      obtain rfl : p = (w.heap.size, .cells (uRow f) 81) := by simpa using hp
      exact ⟨heap_kept hR3 hb, fun q => by have := hL _ q; simp only at this; omega⟩
  have HTI : Hid (TI 0 N (newC (N : Int)) (loadV 16 (imgL (fun i => f i) 16)) (fun k => f k.toNat) (fun k => f k.toNat) (fun _ => false) 0) := TI.start f hf hN1
  have z25 := zero25
  have z81 := zero81
  have z83 := zero83
  clear hst haw h1 h2 hN hx hR3
  generalize x % 8 = y at *
  generalize loadV 16 (imgL (fun i => f i) 16) = t0 at *
  go_enter Try.func7, Try.ntmps7
  go_wp2_with (go_at_call 10; fail)
  refine HDk.out.mono ?_
  rintro e W1 ⟨d, rp, rfl, h1⟩
  have H1 : Hid (Sits w W1 d t0 [(w.heap.size, .cells (uRow f) 81)]) := h1
  clear HDk h1
  unfold ptr
  go_wp2_with (go_at_call 36; fail)
  refine (HPl.out _).mono ?_
  rintro e W2 ⟨rfl, he⟩
  obtain rfl := he.symm
  clear HPl he
  go_wp2_with (go_at_call 9; fail)
  refine (HAW.out _).mono ?_
  rintro e W3 ⟨rfl, hb3⟩
  have HC : Hid (Calls Try.prog 11 _ W3 _) := sit_new (H1.out.later hb3) (n := (N : Int)) (by omega)
  clear H1 hb3 HAW hwN
  go_wp2_with (go_at_call 11; fail)
  refine HC.out.mono ?_
  rintro e W4 ⟨c, rfl, h4⟩
  have hR4 := h4.blk (List.mem_cons_self ..)
  have hR5 := heap_kept hR4 (below_new W4 (.cells (uRow f) 81))
  have h5 := ((h4.add (.cells (uRow f) 81)).add (.cells (uRow f) 81)).add (.cells (bRow fun _ => false) 83)
  have H5 : Hid (Sit w _ c d (newC (N : Int)) t0 _) := h5
  clear HC h4 h5
  unfold ptr
  go_upto_region 14 with (first | refine wpList_load81 rfl (.tmp 3) rfl w.heap.size rfl f hR4 ?_ | refine wpList_load81 rfl (.tmp 3) rfl w.heap.size rfl f hR5 ?_ | refine wpList_store81_new rfl (.tmp 12) (.tmp 55) rfl f _ rfl rfl ?_ | refine wpList_store81_at rfl (.tmp 13) (.tmp 56) rfl f _ (W4.heap.size + 1) (by simp) rfl rfl ?_)
  have e1 : (W4.alloc (.cells (uRow f) 81)).heap.size = W4.heap.size + 1 := by simp
  have e2 : ((W4.alloc (.cells (uRow f) 81)).alloc (.cells (uRow f) 81)).heap.size = W4.heap.size + 1 + 1 := by simp
  rw [e1, e2] at H5
  have hw4 : w.heap.size ≤ W4.heap.size := by have := (Array.getElem?_eq_some_iff.1 hR4).1; omega
  clear e1 e2 hR4 hR5
  generalize ((W4.alloc (.cells (uRow f) 81)).alloc (.cells (uRow f) 81)).alloc (.cells (bRow fun _ => false) 83) = V at *
  generalize hg12 : W4.heap.size = g at *
  have hur : uRow f = uRow fun k => f k.toNat := by
    unfold uRow
    congr 1
  rw [hur] at H5
  have hgw : w.heap.size ≤ g := hw4
  have H6 : Hid (Sit w V c d (newC (N : Int)) t0 [(g + 1 + 1, .cells (bRow fun _ => false) 83), (g + 1, .cells (uRow fun k => f k.toNat) 81), (g, .cells (uRow fun k => f k.toNat) 81)]) := H5.out.drop (by simp)
  clear H5 hur hg12 hw4 z81 z83 hf
  go_loopw [15, 16, 17] (fun s15 s16 s17 wx => ∃ (i : Nat) (s : CSt) (t : St) (book out : Int → Int) (fast : Int → Bool) (wn : Nat), i ≤ m ∧ s17 = .int .i64 i ∧ s15 = .int .i64 (fastN s.row : Int) ∧ s16 = .int .i64 (wn : Int) ∧ Hid (TI i N s t book out fast wn) ∧
      Hid (Sit w wx c d s t [(g + 1 + 1, .cells (bRow fast) 83), (g + 1, .cells (uRow out) 81), (g, .cells (uRow book) 81)])) (fun _ _ s17 _ => m - (intOf s17).toNat)
  case atStart => exact ⟨0, _, _, _, _, _, 0, by omega, rfl, rfl, rfl, HTI.out, H6.out⟩
  case round =>
    obtain ⟨i, s, t, book, out, fast, wn, hi, rfl, rfl, rfl, HT, HS⟩ := hrel
    clear HTI H6
    by_cases him : (i : Int) < m
    · obtain ⟨b, off, rfl, ⟨A⟩⟩ := HST.out i (by omega)
      have k0 := (HS.out.below.cell (p := ⟨b, off + i * 4, none⟩) A.hb).trans A.c0
      have k2 := (HS.out.below.cell (p := ⟨b, off + i * 4 + 2, none⟩) A.hb).trans A.c2
      have k3 := (HS.out.below.cell (p := ⟨b, off + i * 4 + 3, none⟩) A.hb).trans A.c3
      have hAb := A.hb
      have hA3 := A.c3
      have HP : Hid (Calls Try.prog 36 _ wr _) := place_any A.pos 16 A.hp (by omega) wr
      have ho := A.ho
      have hfl := A.hf
      have q1 := Int.emod_nonneg A.pos (show (16 : Int) ≠ 0 by omega)
      have q2 := Int.emod_lt_of_pos A.pos (show (0 : Int) < 16 by omega)
      generalize A.pos = ps at *
      generalize A.fill = fl at *
      generalize A.o = od at *
      obtain ⟨k, hk⟩ : ∃ k : Nat, ps % 16 = (k : Int) := ⟨(ps % 16).toNat, by omega⟩
      rw [hk] at HP
      have hk16 : k < 16 := by omega
      clear A q1 q2 hk
      go_wp2_with (go_at_call 36; fail)
      refine HP.out.mono ?_
      rintro e W5 ⟨rfl, he⟩
      obtain rfl := he.symm
      clear HP he
      have hbf := HS.out.blk (List.mem_cons_self ..)
      have hcf : wr.cell? ⟨g + 1 + 1, k, none⟩ = some (.bool (fast k)) := by rw [Joins.cell_of_block hbf, bRow_get fast k hk16]
      have hoc : od % 3 = 0 ∨ od % 3 = 1 ∨ od % 3 = 2 := by omega
      obtain ⟨fu, hfu⟩ : ∃ fu : Bool, fu = (decide ((fastN s.row : Int) = (N : Int)) && !fast k) := ⟨_, rfl⟩
      have hR : Hid (Room t) := HT.out.room (by omega)
      clear hfu fu
      have hfb : 0 ≤ (fastN s.row : Int) ∧ (fastN s.row : Int) ≤ N := by
        have q1 := fastN_le s.row
        have q2 := HT.out.tr.ok.len
        rw [HT.out.size] at q2
        omega
      have hwn : wn ≤ i := HT.out.made
      generalize hfn : (fastN s.row : Int) = fn at *
      rcases hoc with ho0 | ho1 | ho2
      · clear k3 hfl hAb hA3
        cases hfk : fast k
        · rw [hfk] at hcf
          by_cases hq : fn = (N : Int)
          · subst hq
            as_aux_lemma =>
              have hkI : (k : Int) < 16 := by omega
              have hL0 := sit_len HS.out
              have HRd : Hid (Calls Try.prog 24 _ wr _) := sit_read HS.out hR.out (k : Int)
              unfold ptr at hL0
              go_wp2_with (first | (go_at_call 29; refine hL0.mono ?_; rintro e V0 ⟨rfl, he⟩; obtain rfl := he.symm; clear he) | (go_at_call 24; fail))
              refine HRd.out.mono ?_
              rintro e W6 ⟨rfl, h6⟩
              have hu : usedE s t (k : Int) = 160 := by rw [HT.out.used (by omega), if_pos ⟨hfn, hfk⟩]
              obtain ⟨r1, r2, r3⟩ := rd_full hu
              rw [hu, r1]
              rw [r2, r3] at h6
              have hfn7 := hfn
              have HT7 := Hid.mk' HT.out.more
              have HSS := Hid.mk' (h6.add (.cells (blk (nought)) 59)).drew
              have hLs : Hid (∀ u, Sit w u c d s t ((W6.heap.size, .cells (blk (nought)) 59) :: [(g + 1 + 1, .cells (bRow fast) 83), (g + 1, .cells (uRow out) 81), (g, .cells (uRow book) 81)]) → Calls Try.prog 29 #[.pointer (some ⟨c, 0, none⟩)] u fun e W' => e = .returned (.int .i64 ((s).row.length : Int)) ∧ W' = u) := fun u hu => sit_len hu
              clear h6 HRd hL0 hu hcf
              go_upto_region 22 with (refine wpList_store58_new rfl (.tmp 21) (.tmp 92) rfl (nought) _ _ rfl rfl rfl ?_)
              generalize hq21 : W6.heap.size = q21 at *
              clear hq21
              refine wp_region_ord (S := fun u => Sit w u c d s t ((q21, .cells (blk (nought)) 59) :: [(g + 1 + 1, .cells (bRow fast) 83), (g + 1, .cells (uRow out) 81), (g, .cells (uRow book) 81)])) [(0, true), (1, true), (2, true), (3, true), (4, true), (5, true), (6, true), (7, true), (8, true), (9, true), (10, true), (11, true), (13, true), (12, false), (14, true), (15, true), (16, true), (17, true), (18, true), (19, true), (20, true), (21, true), (22, true), (23, true), (24, true), (25, false), (26, true), (27, true), (28, true), (29, true), (30, true), (31, true), (32, true), (33, true), (34, true), (35, true), (36, true), (37, true), (38, true), (39, true), (40, true), (41, true), (42, true)]
                (by kernel_rfl) rfl (by kernel_rfl) (fun d _ _ _ _ h => by cases d <;> exact h) HSS.out ?_
              simp only [inOrd, List.getElem?_cons_zero, List.getElem?_cons_succ]
              refine wpOrd_yield (v := .int .i64 160) rfl (fun u _ => exec_mv rfl rfl) ?_
              simp only [Act.put, List.setIfInBounds_toArray, List.set_cons_succ, List.set_cons_zero]
              refine wpOrd_yield (v := .bool true) rfl (fun u _ => by go_simp) ?_
              simp only [Act.put, List.setIfInBounds_toArray, List.set_cons_succ, List.set_cons_zero]
              refine wpOrd_yield (v := .bool true) rfl (fun u _ => exec_mv rfl rfl) ?_
              simp only [Act.put, List.setIfInBounds_toArray, List.set_cons_succ, List.set_cons_zero]
              refine wpOrd_yield (v := .bool true) rfl (fun u _ => exec_mv rfl rfl) ?_
              simp only [Act.put, List.setIfInBounds_toArray, List.set_cons_succ, List.set_cons_zero]
              refine wpOrd_yield (v := .bool false) rfl (fun u _ => by go_simp) ?_
              simp only [Act.put, List.setIfInBounds_toArray, List.set_cons_succ, List.set_cons_zero]
              refine wpOrd_yield (v := .bool false) rfl (fun u _ => exec_mv rfl rfl) ?_
              simp only [Act.put, List.setIfInBounds_toArray, List.set_cons_succ, List.set_cons_zero]
              refine wpOrd_yield (v := .agg (blk (nought))) rfl (fun u hu => exec_ld59 rfl q21 (nought) rfl (hu.blk (List.mem_cons_self ..))) ?_
              simp only [Act.put, List.setIfInBounds_toArray, List.set_cons_succ, List.set_cons_zero]
              refine wpOrd_yield (v := .agg (blk nought)) rfl (fun u _ => exec_b59 rfl u) ?_
              simp only [Act.put, List.setIfInBounds_toArray, List.set_cons_succ, List.set_cons_zero]
              refine wpOrd_yield (v := .bool false) rfl (fun u _ => exec_neB rfl rfl rfl u) ?_
              simp only [Act.put, List.setIfInBounds_toArray, List.set_cons_succ, List.set_cons_zero]
              refine wpOrd_yield (v := .bool false) rfl (fun u _ => by go_simp) ?_
              simp only [Act.put, List.setIfInBounds_toArray, List.set_cons_succ, List.set_cons_zero]
              refine wpOrd_yield (v := .bool false) rfl (fun u _ => exec_mv rfl rfl) ?_
              simp only [Act.put, List.setIfInBounds_toArray, List.set_cons_succ, List.set_cons_zero]
              refine wpOrd_yield (v := .pointer (some ⟨c, 0, none⟩)) rfl (fun u _ => exec_mv rfl rfl) ?_
              simp only [Act.put, List.setIfInBounds_toArray, List.set_cons_succ, List.set_cons_zero]
              refine wpOrd_yield (v := .int .i64 (s.row.length : Int)) rfl (fun u _ => exec_mv rfl rfl) ?_
              simp only [Act.put, List.setIfInBounds_toArray, List.set_cons_succ, List.set_cons_zero]
              refine wpOrd_call rfl 29 _ _ rfl Try.call29 [.pointer (some ⟨c, 0, none⟩)] rfl ?_
              refine (hLs.out _ HSS.out).mono ?_
              rintro e Y1 ⟨rfl, he⟩
              obtain rfl := he.symm
              clear he
              refine ⟨_, rfl, HSS.out, ?_⟩
              simp only [Act.put, List.setIfInBounds_toArray, List.set_cons_succ, List.set_cons_zero]
              refine wpOrd_yield (v := .bool false) rfl (fun u _ => by go_simp) ?_
              simp only [Act.put, List.setIfInBounds_toArray, List.set_cons_succ, List.set_cons_zero]
              refine wpOrd_yield (v := .bool false) rfl (fun u _ => by go_simp) ?_
              simp only [Act.put, List.setIfInBounds_toArray, List.set_cons_succ, List.set_cons_zero]
              refine wpOrd_yield (v := .bool false) rfl (fun u _ => by go_simp) ?_
              simp only [Act.put, List.setIfInBounds_toArray, List.set_cons_succ, List.set_cons_zero]
              refine wpOrd_yield (v := .bool false) rfl (fun u _ => exec_mv rfl rfl) ?_
              simp only [Act.put, List.setIfInBounds_toArray, List.set_cons_succ, List.set_cons_zero]
              refine wpOrd_yield (v := .int .i64 160) rfl (fun u _ => exec_mv rfl rfl) ?_
              simp only [Act.put, List.setIfInBounds_toArray, List.set_cons_succ, List.set_cons_zero]
              refine wpOrd_yield (v := .bool false) rfl (fun u _ => by go_simp) ?_
              simp only [Act.put, List.setIfInBounds_toArray, List.set_cons_succ, List.set_cons_zero]
              refine wpOrd_yield (v := .bool false) rfl (fun u _ => exec_mv rfl rfl) ?_
              simp only [Act.put, List.setIfInBounds_toArray, List.set_cons_succ, List.set_cons_zero]
              refine wpOrd_skip HSS.out rfl ?_
              simp only [Act.put, List.setIfInBounds_toArray, List.set_cons_succ, List.set_cons_zero]
              refine wpOrd_skip HSS.out rfl ?_
              simp only [Act.put, List.setIfInBounds_toArray, List.set_cons_succ, List.set_cons_zero]
              refine wpOrd_skip HSS.out rfl ?_
              simp only [Act.put, List.setIfInBounds_toArray, List.set_cons_succ, List.set_cons_zero]
              refine wpOrd_skip HSS.out rfl ?_
              simp only [Act.put, List.setIfInBounds_toArray, List.set_cons_succ, List.set_cons_zero]
              refine wpOrd_skip HSS.out rfl ?_
              simp only [Act.put, List.setIfInBounds_toArray, List.set_cons_succ, List.set_cons_zero]
              refine wpOrd_skip HSS.out rfl ?_
              simp only [Act.put, List.setIfInBounds_toArray, List.set_cons_succ, List.set_cons_zero]
              refine wpOrd_yield (v := .bool false) rfl (fun u _ => by go_simp) ?_
              simp only [Act.put, List.setIfInBounds_toArray, List.set_cons_succ, List.set_cons_zero]
              refine wpOrd_yield (v := .bool false) rfl (fun u _ => by go_simp) ?_
              simp only [Act.put, List.setIfInBounds_toArray, List.set_cons_succ, List.set_cons_zero]
              refine wpOrd_yield (v := .bool false) rfl (fun u _ => exec_mv rfl rfl) ?_
              simp only [Act.put, List.setIfInBounds_toArray, List.set_cons_succ, List.set_cons_zero]
              refine wpOrd_yield (v := .int .i64 160) rfl (fun u _ => exec_mv rfl rfl) ?_
              simp only [Act.put, List.setIfInBounds_toArray, List.set_cons_succ, List.set_cons_zero]
              refine wpOrd_yield (v := .bool true) rfl (fun u _ => by go_simp) ?_
              simp only [Act.put, List.setIfInBounds_toArray, List.set_cons_succ, List.set_cons_zero]
              refine wpOrd_yield (v := .bool true) rfl (fun u _ => exec_mv rfl rfl) ?_
              simp only [Act.put, List.setIfInBounds_toArray, List.set_cons_succ, List.set_cons_zero]
              refine wpOrd_yield (v := .int .i64 160) rfl (fun u _ => exec_mv rfl rfl) ?_
              simp only [Act.put, List.setIfInBounds_toArray, List.set_cons_succ, List.set_cons_zero]
              refine wpOrd_yield (v := .bool false) rfl (fun u _ => by go_simp) ?_
              simp only [Act.put, List.setIfInBounds_toArray, List.set_cons_succ, List.set_cons_zero]
              refine wpOrd_yield (v := .bool false) rfl (fun u _ => by go_simp) ?_
              simp only [Act.put, List.setIfInBounds_toArray, List.set_cons_succ, List.set_cons_zero]
              refine wpOrd_yield (v := .bool false) rfl (fun u _ => by go_simp) ?_
              simp only [Act.put, List.setIfInBounds_toArray, List.set_cons_succ, List.set_cons_zero]
              refine wpOrd_yield (v := .bool false) rfl (fun u _ => exec_mv rfl rfl) ?_
              simp only [Act.put, List.setIfInBounds_toArray, List.set_cons_succ, List.set_cons_zero]
              refine wpOrd_yield (v := .bool true) rfl (fun u _ => exec_mv rfl rfl) ?_
              simp only [Act.put, List.setIfInBounds_toArray, List.set_cons_succ, List.set_cons_zero]
              refine wpOrd_yield (v := .int .i64 160) rfl (fun u _ => exec_mv rfl rfl) ?_
              simp only [Act.put, List.setIfInBounds_toArray, List.set_cons_succ, List.set_cons_zero]
              refine wpOrd_yield (v := .bool true) rfl (fun u _ => by go_simp) ?_
              simp only [Act.put, List.setIfInBounds_toArray, List.set_cons_succ, List.set_cons_zero]
              refine wpOrd_yield (v := .bool false) rfl (fun u _ => by go_simp) ?_
              simp only [Act.put, List.setIfInBounds_toArray, List.set_cons_succ, List.set_cons_zero]
              refine wpOrd_yield (v := .bool false) rfl (fun u _ => by go_simp) ?_
              simp only [Act.put, List.setIfInBounds_toArray, List.set_cons_succ, List.set_cons_zero]
              refine wpOrd_nil ?_
              clear hLs
              generalize hW7 : World.drew _ = W7 at *
              clear hW7
              have H7 : Hid (Sit w W7 c d s t [(g + 1 + 1, .cells (bRow fast) 83), (g + 1, .cells (uRow out) 81), (g, .cells (uRow book) 81)]) := HSS.out.drop (by simp)
              clear HSS
              have hF := sit_fast H7.out
              rw [hfn7] at hF
              have hL := sit_len H7.out
              have hO := sit_order H7.out
              have hlen1 := H7.out.ok.1.len
              rw [HT7.out.size] at hlen1
              have hlen2 := fastN_le (s).row
              have hol : (ordV (s).row).length = (s).row.length := by unfold ordV; rw [List.length_map]
              rw [hol] at hO
              obtain ⟨ln, hln⟩ : ∃ ln, (s).row.length = ln := ⟨_, rfl⟩
              have hL9 : Hid (∀ W9, Below (W7).heap.size (W7) W9 → Calls Try.prog 29 #[.pointer (some ⟨c, 0, none⟩)] W9 fun e W' => e = .returned (.int .i64 (ln : Int)) ∧ W' = W9) := fun W9 hb => by
                have q := sit_len (H7.out.later hb)
                rw [hln] at q
                exact q
              have hM9 : Hid (∀ W9, Below (W7).heap.size (W7) W9 → Calls Try.prog 16 #[.pointer (some ⟨d, 0, none⟩)] W9 fun e W' => e = .returned (.int .i64 ((wn : Int))) ∧ W' = W9) := fun W9 hb => by
                have q := dsit_made (H7.out.later hb)
                rw [HT7.out.tr.made] at q
                exact q
              rw [hln] at hL hO hlen1 hlen2
              have hfl7 : ((N : Int)) ≤ (ln : Int) := by rw [← hfn7]; omega
              have HO := Hid.mk' hO
              unfold ptr at hF hL HO
              clear hO hln hol hlen2
              go_wp2_with (first | (go_at_call 27; refine hF.mono ?_; rintro e V1 ⟨rfl, he⟩; obtain rfl := he.symm; clear he) | (go_at_call 29; refine hL.mono ?_; rintro e V2 ⟨rfl, he⟩; obtain rfl := he.symm; clear he) | (go_at_call 31; fail))
              refine HO.out.mono ?_
              rintro e W9 ⟨p9, c9, rfl, _, _, hb9, _⟩
              have H9 := Hid.mk' (H7.out.later hb9)
              have hL8 := hL9.out W9 hb9
              have hM8 := hM9.out W9 hb9
              clear HO hF hL hL9 hM9 hb9
              go_wp2_with (first | (go_at_call 29; refine hL8.mono ?_; rintro e V2 ⟨rfl, he⟩; obtain rfl := he.symm; clear he) | (go_at_call 16; refine hM8.mono ?_; rintro e V3 ⟨rfl, he⟩; obtain rfl := he.symm; clear he))
              exact ⟨⟨i + 1, s, t, book, out, fast, wn, by omega, by go_num, by rw [hfn7], by go_num, HT7.out, H9.out⟩, by simp [intOf]; omega⟩
          · have hq' : (fn == (N : Int)) = false := by simp [hq]
            as_aux_lemma =>
              have hkI : (k : Int) < 16 := by omega
              have hL0 := sit_len HS.out
              have HRd : Hid (Calls Try.prog 24 _ wr _) := sit_read HS.out hR.out (k : Int)
              unfold ptr at hL0
              go_wp2_with (first | (go_at_call 29; refine hL0.mono ?_; rintro e V0 ⟨rfl, he⟩; obtain rfl := he.symm; clear he) | (go_at_call 24; fail))
              refine HRd.out.mono ?_
              rintro e W6 ⟨rfl, h6⟩
              have hu : usedE s t (k : Int) = 0 := by rw [HT.out.used (by omega), if_neg (fun q => hq (hfn.symm.trans q.1))]
              obtain ⟨t7, hfn7, r1⟩ := HT.out.readOk (k := (k : Int)) (by omega) hu h6.ok.1
              rw [hu, r1]
              have HT7 := Hid.mk' t7
              clear t7
              generalize hS7 : rdC s t (k : Int) = S7 at *
              generalize hT7 : rdD s t (k : Int) = T7 at *
              rw [hfn] at hfn7
              clear hS7 hT7 r1
              have HSS := Hid.mk' (h6.add (.cells (blk (fillF (book k))) 59)).drew
              have hLs : Hid (∀ u, Sit w u c d S7 T7 ((W6.heap.size, .cells (blk (fillF (book k))) 59) :: [(g + 1 + 1, .cells (bRow fast) 83), (g + 1, .cells (uRow out) 81), (g, .cells (uRow book) 81)]) → Calls Try.prog 29 #[.pointer (some ⟨c, 0, none⟩)] u fun e W' => e = .returned (.int .i64 ((S7).row.length : Int)) ∧ W' = u) := fun u hu => sit_len hu
              clear h6 HRd hL0 hu hcf
              go_upto_region 22 with (refine wpList_store58_new rfl (.tmp 21) (.tmp 92) rfl (fillF (book k)) _ _ rfl rfl rfl ?_)
              generalize hq21 : W6.heap.size = q21 at *
              clear hq21
              refine wp_region_ord (S := fun u => Sit w u c d S7 T7 ((q21, .cells (blk (fillF (book k))) 59) :: [(g + 1 + 1, .cells (bRow fast) 83), (g + 1, .cells (uRow out) 81), (g, .cells (uRow book) 81)])) [(0, true), (1, true), (2, true), (3, true), (4, true), (5, true), (6, true), (7, true), (8, true), (9, true), (10, true), (11, true), (13, true), (12, false), (14, true), (15, true), (16, true), (17, true), (18, true), (19, true), (20, true), (21, true), (22, true), (23, true), (24, true), (25, false), (26, true), (27, true), (28, true), (29, true), (30, true), (31, true), (32, true), (33, true), (34, true), (35, true), (36, true), (37, true), (38, true), (39, true), (40, true), (41, true), (42, true)]
                (by kernel_rfl) rfl (by kernel_rfl) (fun d _ _ _ _ h => by cases d <;> exact h) HSS.out ?_
              simp only [inOrd, List.getElem?_cons_zero, List.getElem?_cons_succ]
              refine wpOrd_yield (v := .int .i64 0) rfl (fun u _ => exec_mv rfl rfl) ?_
              simp only [Act.put, List.setIfInBounds_toArray, List.set_cons_succ, List.set_cons_zero]
              refine wpOrd_yield (v := .bool false) rfl (fun u _ => by go_simp) ?_
              simp only [Act.put, List.setIfInBounds_toArray, List.set_cons_succ, List.set_cons_zero]
              refine wpOrd_yield (v := .bool false) rfl (fun u _ => exec_mv rfl rfl) ?_
              simp only [Act.put, List.setIfInBounds_toArray, List.set_cons_succ, List.set_cons_zero]
              refine wpOrd_skip HSS.out rfl ?_
              simp only [Act.put, List.setIfInBounds_toArray, List.set_cons_succ, List.set_cons_zero]
              refine wpOrd_skip HSS.out rfl ?_
              simp only [Act.put, List.setIfInBounds_toArray, List.set_cons_succ, List.set_cons_zero]
              refine wpOrd_skip HSS.out rfl ?_
              simp only [Act.put, List.setIfInBounds_toArray, List.set_cons_succ, List.set_cons_zero]
              refine wpOrd_skip HSS.out rfl ?_
              simp only [Act.put, List.setIfInBounds_toArray, List.set_cons_succ, List.set_cons_zero]
              refine wpOrd_skip HSS.out rfl ?_
              simp only [Act.put, List.setIfInBounds_toArray, List.set_cons_succ, List.set_cons_zero]
              refine wpOrd_skip HSS.out rfl ?_
              simp only [Act.put, List.setIfInBounds_toArray, List.set_cons_succ, List.set_cons_zero]
              refine wpOrd_skip HSS.out rfl ?_
              simp only [Act.put, List.setIfInBounds_toArray, List.set_cons_succ, List.set_cons_zero]
              refine wpOrd_skip HSS.out rfl ?_
              simp only [Act.put, List.setIfInBounds_toArray, List.set_cons_succ, List.set_cons_zero]
              refine wpOrd_skip HSS.out rfl ?_
              simp only [Act.put, List.setIfInBounds_toArray, List.set_cons_succ, List.set_cons_zero]
              refine wpOrd_skip HSS.out rfl ?_
              simp only [Act.put, List.setIfInBounds_toArray, List.set_cons_succ, List.set_cons_zero]
              refine wpOrd_skip HSS.out rfl ?_
              simp only [Act.put, List.setIfInBounds_toArray, List.set_cons_succ, List.set_cons_zero]
              refine wpOrd_skip HSS.out rfl ?_
              simp only [Act.put, List.setIfInBounds_toArray, List.set_cons_succ, List.set_cons_zero]
              refine wpOrd_skip HSS.out rfl ?_
              simp only [Act.put, List.setIfInBounds_toArray, List.set_cons_succ, List.set_cons_zero]
              refine wpOrd_yield (v := .bool false) rfl (fun u _ => by go_simp) ?_
              simp only [Act.put, List.setIfInBounds_toArray, List.set_cons_succ, List.set_cons_zero]
              refine wpOrd_yield (v := .bool false) rfl (fun u _ => exec_mv rfl rfl) ?_
              simp only [Act.put, List.setIfInBounds_toArray, List.set_cons_succ, List.set_cons_zero]
              refine wpOrd_yield (v := .int .i64 0) rfl (fun u _ => exec_mv rfl rfl) ?_
              simp only [Act.put, List.setIfInBounds_toArray, List.set_cons_succ, List.set_cons_zero]
              refine wpOrd_yield (v := .bool true) rfl (fun u _ => by go_simp) ?_
              simp only [Act.put, List.setIfInBounds_toArray, List.set_cons_succ, List.set_cons_zero]
              refine wpOrd_yield (v := .bool true) rfl (fun u _ => exec_mv rfl rfl) ?_
              simp only [Act.put, List.setIfInBounds_toArray, List.set_cons_succ, List.set_cons_zero]
              refine wpOrd_yield (v := .agg (blk (fillF (book k)))) rfl (fun u hu => exec_ld59 rfl q21 (fillF (book k)) rfl (hu.blk (List.mem_cons_self ..))) ?_
              simp only [Act.put, List.setIfInBounds_toArray, List.set_cons_succ, List.set_cons_zero]
              refine wpOrd_yield (v := .int .i64 (k : Int)) rfl (fun u _ => exec_mv rfl rfl) ?_
              simp only [Act.put, List.setIfInBounds_toArray, List.set_cons_succ, List.set_cons_zero]
              refine wpOrd_yield (v := .pointer (some ⟨g, k, none⟩)) rfl (fun u _ => by go_simp) ?_
              simp only [Act.put, List.setIfInBounds_toArray, List.set_cons_succ, List.set_cons_zero]
              refine wpOrd_yield (v := .int .u16 (book k)) rfl (fun u hu => exec_ld44 rfl rfl (by rw [Joins.cell_of_block (hu.blk (List.mem_cons_of_mem _ (List.mem_cons_of_mem _ (List.mem_cons_of_mem _ (List.mem_cons_self ..))))), uRow_get book k hk16])) ?_
              simp only [Act.put, List.setIfInBounds_toArray, List.set_cons_succ, List.set_cons_zero]
              refine wpOrd_call rfl 35 _ _ rfl Try.call35 [.int .u16 (book k)] rfl ?_
              refine (fill_any (book k) (HT.out.bb k) _).mono ?_
              rintro e Y1 ⟨rfl, hy⟩
              have HSS2 := Hid.mk' (HSS.out.later hy)
              clear hy HSS
              have HSS := HSS2
              clear HSS2
              refine ⟨_, rfl, HSS.out, ?_⟩
              simp only [Act.put, List.setIfInBounds_toArray, List.set_cons_succ, List.set_cons_zero]
              refine wpOrd_yield (v := .bool false) rfl (fun u _ => exec_neB rfl rfl rfl u) ?_
              simp only [Act.put, List.setIfInBounds_toArray, List.set_cons_succ, List.set_cons_zero]
              refine wpOrd_yield (v := .bool false) rfl (fun u _ => by go_simp) ?_
              simp only [Act.put, List.setIfInBounds_toArray, List.set_cons_succ, List.set_cons_zero]
              refine wpOrd_yield (v := .bool false) rfl (fun u _ => by go_simp) ?_
              simp only [Act.put, List.setIfInBounds_toArray, List.set_cons_succ, List.set_cons_zero]
              refine wpOrd_yield (v := .bool false) rfl (fun u _ => exec_mv rfl rfl) ?_
              simp only [Act.put, List.setIfInBounds_toArray, List.set_cons_succ, List.set_cons_zero]
              refine wpOrd_yield (v := .int .i64 0) rfl (fun u _ => exec_mv rfl rfl) ?_
              simp only [Act.put, List.setIfInBounds_toArray, List.set_cons_succ, List.set_cons_zero]
              refine wpOrd_yield (v := .bool false) rfl (fun u _ => by go_simp) ?_
              simp only [Act.put, List.setIfInBounds_toArray, List.set_cons_succ, List.set_cons_zero]
              refine wpOrd_yield (v := .bool false) rfl (fun u _ => exec_mv rfl rfl) ?_
              simp only [Act.put, List.setIfInBounds_toArray, List.set_cons_succ, List.set_cons_zero]
              refine wpOrd_skip HSS.out rfl ?_
              simp only [Act.put, List.setIfInBounds_toArray, List.set_cons_succ, List.set_cons_zero]
              refine wpOrd_skip HSS.out rfl ?_
              simp only [Act.put, List.setIfInBounds_toArray, List.set_cons_succ, List.set_cons_zero]
              refine wpOrd_yield (v := .bool false) rfl (fun u _ => by go_simp) ?_
              simp only [Act.put, List.setIfInBounds_toArray, List.set_cons_succ, List.set_cons_zero]
              refine wpOrd_yield (v := .bool false) rfl (fun u _ => by go_simp) ?_
              simp only [Act.put, List.setIfInBounds_toArray, List.set_cons_succ, List.set_cons_zero]
              refine wpOrd_yield (v := .bool false) rfl (fun u _ => exec_mv rfl rfl) ?_
              simp only [Act.put, List.setIfInBounds_toArray, List.set_cons_succ, List.set_cons_zero]
              refine wpOrd_yield (v := .bool false) rfl (fun u _ => exec_mv rfl rfl) ?_
              simp only [Act.put, List.setIfInBounds_toArray, List.set_cons_succ, List.set_cons_zero]
              refine wpOrd_yield (v := .int .i64 0) rfl (fun u _ => exec_mv rfl rfl) ?_
              simp only [Act.put, List.setIfInBounds_toArray, List.set_cons_succ, List.set_cons_zero]
              refine wpOrd_yield (v := .bool false) rfl (fun u _ => by go_simp) ?_
              simp only [Act.put, List.setIfInBounds_toArray, List.set_cons_succ, List.set_cons_zero]
              refine wpOrd_yield (v := .bool false) rfl (fun u _ => by go_simp) ?_
              simp only [Act.put, List.setIfInBounds_toArray, List.set_cons_succ, List.set_cons_zero]
              refine wpOrd_yield (v := .bool false) rfl (fun u _ => by go_simp) ?_
              simp only [Act.put, List.setIfInBounds_toArray, List.set_cons_succ, List.set_cons_zero]
              refine wpOrd_nil ?_
              clear hLs
              generalize hW7 : Y1 = W7 at *
              clear hW7
              have H7 : Hid (Sit w W7 c d S7 T7 [(g + 1 + 1, .cells (bRow fast) 83), (g + 1, .cells (uRow out) 81), (g, .cells (uRow book) 81)]) := HSS.out.drop (by simp)
              clear HSS
              have hF := sit_fast H7.out
              rw [hfn7] at hF
              have hL := sit_len H7.out
              have hO := sit_order H7.out
              have hlen1 := H7.out.ok.1.len
              rw [HT7.out.size] at hlen1
              have hlen2 := fastN_le (S7).row
              have hol : (ordV (S7).row).length = (S7).row.length := by unfold ordV; rw [List.length_map]
              rw [hol] at hO
              obtain ⟨ln, hln⟩ : ∃ ln, (S7).row.length = ln := ⟨_, rfl⟩
              have hL9 : Hid (∀ W9, Below (W7).heap.size (W7) W9 → Calls Try.prog 29 #[.pointer (some ⟨c, 0, none⟩)] W9 fun e W' => e = .returned (.int .i64 (ln : Int)) ∧ W' = W9) := fun W9 hb => by
                have q := sit_len (H7.out.later hb)
                rw [hln] at q
                exact q
              have hM9 : Hid (∀ W9, Below (W7).heap.size (W7) W9 → Calls Try.prog 16 #[.pointer (some ⟨d, 0, none⟩)] W9 fun e W' => e = .returned (.int .i64 ((wn : Int))) ∧ W' = W9) := fun W9 hb => by
                have q := dsit_made (H7.out.later hb)
                rw [HT7.out.tr.made] at q
                exact q
              rw [hln] at hL hO hlen1 hlen2
              have hfl7 : (fn) ≤ (ln : Int) := by rw [← hfn7]; omega
              have HO := Hid.mk' hO
              unfold ptr at hF hL HO
              clear hO hln hol hlen2
              go_wp2_with (first | (go_at_call 27; refine hF.mono ?_; rintro e V1 ⟨rfl, he⟩; obtain rfl := he.symm; clear he) | (go_at_call 29; refine hL.mono ?_; rintro e V2 ⟨rfl, he⟩; obtain rfl := he.symm; clear he) | (go_at_call 31; fail))
              refine HO.out.mono ?_
              rintro e W9 ⟨p9, c9, rfl, _, _, hb9, _⟩
              have H9 := Hid.mk' (H7.out.later hb9)
              have hL8 := hL9.out W9 hb9
              have hM8 := hM9.out W9 hb9
              clear HO hF hL hL9 hM9 hb9
              go_wp2_with (first | (go_at_call 29; refine hL8.mono ?_; rintro e V2 ⟨rfl, he⟩; obtain rfl := he.symm; clear he) | (go_at_call 16; refine hM8.mono ?_; rintro e V3 ⟨rfl, he⟩; obtain rfl := he.symm; clear he))
              exact ⟨⟨i + 1, S7, T7, book, out, fast, wn, by omega, by go_num, by rw [hfn7], by go_num, HT7.out, H9.out⟩, by simp [intOf]; omega⟩
        · rw [hfk] at hcf
          by_cases hq : fn = (N : Int)
          · subst hq
            as_aux_lemma =>
              have hkI : (k : Int) < 16 := by omega
              have hL0 := sit_len HS.out
              have HRd : Hid (Calls Try.prog 24 _ wr _) := sit_read HS.out hR.out (k : Int)
              unfold ptr at hL0
              go_wp2_with (first | (go_at_call 29; refine hL0.mono ?_; rintro e V0 ⟨rfl, he⟩; obtain rfl := he.symm; clear he) | (go_at_call 24; fail))
              refine HRd.out.mono ?_
              rintro e W6 ⟨rfl, h6⟩
              have hu : usedE s t (k : Int) = 0 := by rw [HT.out.used (by omega), if_neg (fun q => by rw [hfk] at q; exact absurd q.2 (by simp))]
              obtain ⟨t7, hfn7, r1⟩ := HT.out.readOk (k := (k : Int)) (by omega) hu h6.ok.1
              rw [hu, r1]
              have HT7 := Hid.mk' t7
              clear t7
              generalize hS7 : rdC s t (k : Int) = S7 at *
              generalize hT7 : rdD s t (k : Int) = T7 at *
              rw [hfn] at hfn7
              clear hS7 hT7 r1
              have HSS := Hid.mk' (h6.add (.cells (blk (fillF (book k))) 59)).drew
              have hLs : Hid (∀ u, Sit w u c d S7 T7 ((W6.heap.size, .cells (blk (fillF (book k))) 59) :: [(g + 1 + 1, .cells (bRow fast) 83), (g + 1, .cells (uRow out) 81), (g, .cells (uRow book) 81)]) → Calls Try.prog 29 #[.pointer (some ⟨c, 0, none⟩)] u fun e W' => e = .returned (.int .i64 ((S7).row.length : Int)) ∧ W' = u) := fun u hu => sit_len hu
              clear h6 HRd hL0 hu hcf
              go_upto_region 22 with (refine wpList_store58_new rfl (.tmp 21) (.tmp 92) rfl (fillF (book k)) _ _ rfl rfl rfl ?_)
              generalize hq21 : W6.heap.size = q21 at *
              clear hq21
              refine wp_region_ord (S := fun u => Sit w u c d S7 T7 ((q21, .cells (blk (fillF (book k))) 59) :: [(g + 1 + 1, .cells (bRow fast) 83), (g + 1, .cells (uRow out) 81), (g, .cells (uRow book) 81)])) [(0, true), (1, true), (2, true), (3, true), (4, true), (5, true), (6, true), (7, true), (8, true), (9, true), (10, true), (11, true), (13, true), (12, false), (14, true), (15, true), (16, true), (17, true), (18, true), (19, true), (20, true), (21, true), (22, true), (23, true), (24, true), (25, false), (26, true), (27, true), (28, true), (29, true), (30, true), (31, true), (32, true), (33, true), (34, true), (35, true), (36, true), (37, true), (38, true), (39, true), (40, true), (41, true), (42, true)]
                (by kernel_rfl) rfl (by kernel_rfl) (fun d _ _ _ _ h => by cases d <;> exact h) HSS.out ?_
              simp only [inOrd, List.getElem?_cons_zero, List.getElem?_cons_succ]
              refine wpOrd_yield (v := .int .i64 0) rfl (fun u _ => exec_mv rfl rfl) ?_
              simp only [Act.put, List.setIfInBounds_toArray, List.set_cons_succ, List.set_cons_zero]
              refine wpOrd_yield (v := .bool false) rfl (fun u _ => by go_simp) ?_
              simp only [Act.put, List.setIfInBounds_toArray, List.set_cons_succ, List.set_cons_zero]
              refine wpOrd_yield (v := .bool false) rfl (fun u _ => exec_mv rfl rfl) ?_
              simp only [Act.put, List.setIfInBounds_toArray, List.set_cons_succ, List.set_cons_zero]
              refine wpOrd_skip HSS.out rfl ?_
              simp only [Act.put, List.setIfInBounds_toArray, List.set_cons_succ, List.set_cons_zero]
              refine wpOrd_skip HSS.out rfl ?_
              simp only [Act.put, List.setIfInBounds_toArray, List.set_cons_succ, List.set_cons_zero]
              refine wpOrd_skip HSS.out rfl ?_
              simp only [Act.put, List.setIfInBounds_toArray, List.set_cons_succ, List.set_cons_zero]
              refine wpOrd_skip HSS.out rfl ?_
              simp only [Act.put, List.setIfInBounds_toArray, List.set_cons_succ, List.set_cons_zero]
              refine wpOrd_skip HSS.out rfl ?_
              simp only [Act.put, List.setIfInBounds_toArray, List.set_cons_succ, List.set_cons_zero]
              refine wpOrd_skip HSS.out rfl ?_
              simp only [Act.put, List.setIfInBounds_toArray, List.set_cons_succ, List.set_cons_zero]
              refine wpOrd_skip HSS.out rfl ?_
              simp only [Act.put, List.setIfInBounds_toArray, List.set_cons_succ, List.set_cons_zero]
              refine wpOrd_skip HSS.out rfl ?_
              simp only [Act.put, List.setIfInBounds_toArray, List.set_cons_succ, List.set_cons_zero]
              refine wpOrd_skip HSS.out rfl ?_
              simp only [Act.put, List.setIfInBounds_toArray, List.set_cons_succ, List.set_cons_zero]
              refine wpOrd_skip HSS.out rfl ?_
              simp only [Act.put, List.setIfInBounds_toArray, List.set_cons_succ, List.set_cons_zero]
              refine wpOrd_skip HSS.out rfl ?_
              simp only [Act.put, List.setIfInBounds_toArray, List.set_cons_succ, List.set_cons_zero]
              refine wpOrd_skip HSS.out rfl ?_
              simp only [Act.put, List.setIfInBounds_toArray, List.set_cons_succ, List.set_cons_zero]
              refine wpOrd_skip HSS.out rfl ?_
              simp only [Act.put, List.setIfInBounds_toArray, List.set_cons_succ, List.set_cons_zero]
              refine wpOrd_yield (v := .bool false) rfl (fun u _ => by go_simp) ?_
              simp only [Act.put, List.setIfInBounds_toArray, List.set_cons_succ, List.set_cons_zero]
              refine wpOrd_yield (v := .bool false) rfl (fun u _ => exec_mv rfl rfl) ?_
              simp only [Act.put, List.setIfInBounds_toArray, List.set_cons_succ, List.set_cons_zero]
              refine wpOrd_yield (v := .int .i64 0) rfl (fun u _ => exec_mv rfl rfl) ?_
              simp only [Act.put, List.setIfInBounds_toArray, List.set_cons_succ, List.set_cons_zero]
              refine wpOrd_yield (v := .bool true) rfl (fun u _ => by go_simp) ?_
              simp only [Act.put, List.setIfInBounds_toArray, List.set_cons_succ, List.set_cons_zero]
              refine wpOrd_yield (v := .bool true) rfl (fun u _ => exec_mv rfl rfl) ?_
              simp only [Act.put, List.setIfInBounds_toArray, List.set_cons_succ, List.set_cons_zero]
              refine wpOrd_yield (v := .agg (blk (fillF (book k)))) rfl (fun u hu => exec_ld59 rfl q21 (fillF (book k)) rfl (hu.blk (List.mem_cons_self ..))) ?_
              simp only [Act.put, List.setIfInBounds_toArray, List.set_cons_succ, List.set_cons_zero]
              refine wpOrd_yield (v := .int .i64 (k : Int)) rfl (fun u _ => exec_mv rfl rfl) ?_
              simp only [Act.put, List.setIfInBounds_toArray, List.set_cons_succ, List.set_cons_zero]
              refine wpOrd_yield (v := .pointer (some ⟨g, k, none⟩)) rfl (fun u _ => by go_simp) ?_
              simp only [Act.put, List.setIfInBounds_toArray, List.set_cons_succ, List.set_cons_zero]
              refine wpOrd_yield (v := .int .u16 (book k)) rfl (fun u hu => exec_ld44 rfl rfl (by rw [Joins.cell_of_block (hu.blk (List.mem_cons_of_mem _ (List.mem_cons_of_mem _ (List.mem_cons_of_mem _ (List.mem_cons_self ..))))), uRow_get book k hk16])) ?_
              simp only [Act.put, List.setIfInBounds_toArray, List.set_cons_succ, List.set_cons_zero]
              refine wpOrd_call rfl 35 _ _ rfl Try.call35 [.int .u16 (book k)] rfl ?_
              refine (fill_any (book k) (HT.out.bb k) _).mono ?_
              rintro e Y1 ⟨rfl, hy⟩
              have HSS2 := Hid.mk' (HSS.out.later hy)
              clear hy HSS
              have HSS := HSS2
              clear HSS2
              refine ⟨_, rfl, HSS.out, ?_⟩
              simp only [Act.put, List.setIfInBounds_toArray, List.set_cons_succ, List.set_cons_zero]
              refine wpOrd_yield (v := .bool false) rfl (fun u _ => exec_neB rfl rfl rfl u) ?_
              simp only [Act.put, List.setIfInBounds_toArray, List.set_cons_succ, List.set_cons_zero]
              refine wpOrd_yield (v := .bool false) rfl (fun u _ => by go_simp) ?_
              simp only [Act.put, List.setIfInBounds_toArray, List.set_cons_succ, List.set_cons_zero]
              refine wpOrd_yield (v := .bool false) rfl (fun u _ => by go_simp) ?_
              simp only [Act.put, List.setIfInBounds_toArray, List.set_cons_succ, List.set_cons_zero]
              refine wpOrd_yield (v := .bool false) rfl (fun u _ => exec_mv rfl rfl) ?_
              simp only [Act.put, List.setIfInBounds_toArray, List.set_cons_succ, List.set_cons_zero]
              refine wpOrd_yield (v := .int .i64 0) rfl (fun u _ => exec_mv rfl rfl) ?_
              simp only [Act.put, List.setIfInBounds_toArray, List.set_cons_succ, List.set_cons_zero]
              refine wpOrd_yield (v := .bool false) rfl (fun u _ => by go_simp) ?_
              simp only [Act.put, List.setIfInBounds_toArray, List.set_cons_succ, List.set_cons_zero]
              refine wpOrd_yield (v := .bool false) rfl (fun u _ => exec_mv rfl rfl) ?_
              simp only [Act.put, List.setIfInBounds_toArray, List.set_cons_succ, List.set_cons_zero]
              refine wpOrd_skip HSS.out rfl ?_
              simp only [Act.put, List.setIfInBounds_toArray, List.set_cons_succ, List.set_cons_zero]
              refine wpOrd_skip HSS.out rfl ?_
              simp only [Act.put, List.setIfInBounds_toArray, List.set_cons_succ, List.set_cons_zero]
              refine wpOrd_yield (v := .bool false) rfl (fun u _ => by go_simp) ?_
              simp only [Act.put, List.setIfInBounds_toArray, List.set_cons_succ, List.set_cons_zero]
              refine wpOrd_yield (v := .bool false) rfl (fun u _ => by go_simp) ?_
              simp only [Act.put, List.setIfInBounds_toArray, List.set_cons_succ, List.set_cons_zero]
              refine wpOrd_yield (v := .bool false) rfl (fun u _ => exec_mv rfl rfl) ?_
              simp only [Act.put, List.setIfInBounds_toArray, List.set_cons_succ, List.set_cons_zero]
              refine wpOrd_yield (v := .bool false) rfl (fun u _ => exec_mv rfl rfl) ?_
              simp only [Act.put, List.setIfInBounds_toArray, List.set_cons_succ, List.set_cons_zero]
              refine wpOrd_yield (v := .int .i64 0) rfl (fun u _ => exec_mv rfl rfl) ?_
              simp only [Act.put, List.setIfInBounds_toArray, List.set_cons_succ, List.set_cons_zero]
              refine wpOrd_yield (v := .bool false) rfl (fun u _ => by go_simp) ?_
              simp only [Act.put, List.setIfInBounds_toArray, List.set_cons_succ, List.set_cons_zero]
              refine wpOrd_yield (v := .bool false) rfl (fun u _ => by go_simp) ?_
              simp only [Act.put, List.setIfInBounds_toArray, List.set_cons_succ, List.set_cons_zero]
              refine wpOrd_yield (v := .bool false) rfl (fun u _ => by go_simp) ?_
              simp only [Act.put, List.setIfInBounds_toArray, List.set_cons_succ, List.set_cons_zero]
              refine wpOrd_nil ?_
              clear hLs
              generalize hW7 : Y1 = W7 at *
              clear hW7
              have H7 : Hid (Sit w W7 c d S7 T7 [(g + 1 + 1, .cells (bRow fast) 83), (g + 1, .cells (uRow out) 81), (g, .cells (uRow book) 81)]) := HSS.out.drop (by simp)
              clear HSS
              have hF := sit_fast H7.out
              rw [hfn7] at hF
              have hL := sit_len H7.out
              have hO := sit_order H7.out
              have hlen1 := H7.out.ok.1.len
              rw [HT7.out.size] at hlen1
              have hlen2 := fastN_le (S7).row
              have hol : (ordV (S7).row).length = (S7).row.length := by unfold ordV; rw [List.length_map]
              rw [hol] at hO
              obtain ⟨ln, hln⟩ : ∃ ln, (S7).row.length = ln := ⟨_, rfl⟩
              have hL9 : Hid (∀ W9, Below (W7).heap.size (W7) W9 → Calls Try.prog 29 #[.pointer (some ⟨c, 0, none⟩)] W9 fun e W' => e = .returned (.int .i64 (ln : Int)) ∧ W' = W9) := fun W9 hb => by
                have q := sit_len (H7.out.later hb)
                rw [hln] at q
                exact q
              have hM9 : Hid (∀ W9, Below (W7).heap.size (W7) W9 → Calls Try.prog 16 #[.pointer (some ⟨d, 0, none⟩)] W9 fun e W' => e = .returned (.int .i64 ((wn : Int))) ∧ W' = W9) := fun W9 hb => by
                have q := dsit_made (H7.out.later hb)
                rw [HT7.out.tr.made] at q
                exact q
              rw [hln] at hL hO hlen1 hlen2
              have hfl7 : ((N : Int)) ≤ (ln : Int) := by rw [← hfn7]; omega
              have HO := Hid.mk' hO
              unfold ptr at hF hL HO
              clear hO hln hol hlen2
              go_wp2_with (first | (go_at_call 27; refine hF.mono ?_; rintro e V1 ⟨rfl, he⟩; obtain rfl := he.symm; clear he) | (go_at_call 29; refine hL.mono ?_; rintro e V2 ⟨rfl, he⟩; obtain rfl := he.symm; clear he) | (go_at_call 31; fail))
              refine HO.out.mono ?_
              rintro e W9 ⟨p9, c9, rfl, _, _, hb9, _⟩
              have H9 := Hid.mk' (H7.out.later hb9)
              have hL8 := hL9.out W9 hb9
              have hM8 := hM9.out W9 hb9
              clear HO hF hL hL9 hM9 hb9
              go_wp2_with (first | (go_at_call 29; refine hL8.mono ?_; rintro e V2 ⟨rfl, he⟩; obtain rfl := he.symm; clear he) | (go_at_call 16; refine hM8.mono ?_; rintro e V3 ⟨rfl, he⟩; obtain rfl := he.symm; clear he))
              exact ⟨⟨i + 1, S7, T7, book, out, fast, wn, by omega, by go_num, by rw [hfn7], by go_num, HT7.out, H9.out⟩, by simp [intOf]; omega⟩
          · have hq' : (fn == (N : Int)) = false := by simp [hq]
            as_aux_lemma =>
              have hkI : (k : Int) < 16 := by omega
              have hL0 := sit_len HS.out
              have HRd : Hid (Calls Try.prog 24 _ wr _) := sit_read HS.out hR.out (k : Int)
              unfold ptr at hL0
              go_wp2_with (first | (go_at_call 29; refine hL0.mono ?_; rintro e V0 ⟨rfl, he⟩; obtain rfl := he.symm; clear he) | (go_at_call 24; fail))
              refine HRd.out.mono ?_
              rintro e W6 ⟨rfl, h6⟩
              have hu : usedE s t (k : Int) = 0 := by rw [HT.out.used (by omega), if_neg (fun q => by rw [hfk] at q; exact absurd q.2 (by simp))]
              obtain ⟨t7, hfn7, r1⟩ := HT.out.readOk (k := (k : Int)) (by omega) hu h6.ok.1
              rw [hu, r1]
              have HT7 := Hid.mk' t7
              clear t7
              generalize hS7 : rdC s t (k : Int) = S7 at *
              generalize hT7 : rdD s t (k : Int) = T7 at *
              rw [hfn] at hfn7
              clear hS7 hT7 r1
              have HSS := Hid.mk' (h6.add (.cells (blk (fillF (book k))) 59)).drew
              have hLs : Hid (∀ u, Sit w u c d S7 T7 ((W6.heap.size, .cells (blk (fillF (book k))) 59) :: [(g + 1 + 1, .cells (bRow fast) 83), (g + 1, .cells (uRow out) 81), (g, .cells (uRow book) 81)]) → Calls Try.prog 29 #[.pointer (some ⟨c, 0, none⟩)] u fun e W' => e = .returned (.int .i64 ((S7).row.length : Int)) ∧ W' = u) := fun u hu => sit_len hu
              clear h6 HRd hL0 hu hcf
              go_upto_region 22 with (refine wpList_store58_new rfl (.tmp 21) (.tmp 92) rfl (fillF (book k)) _ _ rfl rfl rfl ?_)
              generalize hq21 : W6.heap.size = q21 at *
              clear hq21
              refine wp_region_ord (S := fun u => Sit w u c d S7 T7 ((q21, .cells (blk (fillF (book k))) 59) :: [(g + 1 + 1, .cells (bRow fast) 83), (g + 1, .cells (uRow out) 81), (g, .cells (uRow book) 81)])) [(0, true), (1, true), (2, true), (3, true), (4, true), (5, true), (6, true), (7, true), (8, true), (9, true), (10, true), (11, true), (13, true), (12, false), (14, true), (15, true), (16, true), (17, true), (18, true), (19, true), (20, true), (21, true), (22, true), (23, true), (24, true), (25, false), (26, true), (27, true), (28, true), (29, true), (30, true), (31, true), (32, true), (33, true), (34, true), (35, true), (36, true), (37, true), (38, true), (39, true), (40, true), (41, true), (42, true)]
                (by kernel_rfl) rfl (by kernel_rfl) (fun d _ _ _ _ h => by cases d <;> exact h) HSS.out ?_
              simp only [inOrd, List.getElem?_cons_zero, List.getElem?_cons_succ]
              refine wpOrd_yield (v := .int .i64 0) rfl (fun u _ => exec_mv rfl rfl) ?_
              simp only [Act.put, List.setIfInBounds_toArray, List.set_cons_succ, List.set_cons_zero]
              refine wpOrd_yield (v := .bool false) rfl (fun u _ => by go_simp) ?_
              simp only [Act.put, List.setIfInBounds_toArray, List.set_cons_succ, List.set_cons_zero]
              refine wpOrd_yield (v := .bool false) rfl (fun u _ => exec_mv rfl rfl) ?_
              simp only [Act.put, List.setIfInBounds_toArray, List.set_cons_succ, List.set_cons_zero]
              refine wpOrd_skip HSS.out rfl ?_
              simp only [Act.put, List.setIfInBounds_toArray, List.set_cons_succ, List.set_cons_zero]
              refine wpOrd_skip HSS.out rfl ?_
              simp only [Act.put, List.setIfInBounds_toArray, List.set_cons_succ, List.set_cons_zero]
              refine wpOrd_skip HSS.out rfl ?_
              simp only [Act.put, List.setIfInBounds_toArray, List.set_cons_succ, List.set_cons_zero]
              refine wpOrd_skip HSS.out rfl ?_
              simp only [Act.put, List.setIfInBounds_toArray, List.set_cons_succ, List.set_cons_zero]
              refine wpOrd_skip HSS.out rfl ?_
              simp only [Act.put, List.setIfInBounds_toArray, List.set_cons_succ, List.set_cons_zero]
              refine wpOrd_skip HSS.out rfl ?_
              simp only [Act.put, List.setIfInBounds_toArray, List.set_cons_succ, List.set_cons_zero]
              refine wpOrd_skip HSS.out rfl ?_
              simp only [Act.put, List.setIfInBounds_toArray, List.set_cons_succ, List.set_cons_zero]
              refine wpOrd_skip HSS.out rfl ?_
              simp only [Act.put, List.setIfInBounds_toArray, List.set_cons_succ, List.set_cons_zero]
              refine wpOrd_skip HSS.out rfl ?_
              simp only [Act.put, List.setIfInBounds_toArray, List.set_cons_succ, List.set_cons_zero]
              refine wpOrd_skip HSS.out rfl ?_
              simp only [Act.put, List.setIfInBounds_toArray, List.set_cons_succ, List.set_cons_zero]
              refine wpOrd_skip HSS.out rfl ?_
              simp only [Act.put, List.setIfInBounds_toArray, List.set_cons_succ, List.set_cons_zero]
              refine wpOrd_skip HSS.out rfl ?_
              simp only [Act.put, List.setIfInBounds_toArray, List.set_cons_succ, List.set_cons_zero]
              refine wpOrd_skip HSS.out rfl ?_
              simp only [Act.put, List.setIfInBounds_toArray, List.set_cons_succ, List.set_cons_zero]
              refine wpOrd_yield (v := .bool false) rfl (fun u _ => by go_simp) ?_
              simp only [Act.put, List.setIfInBounds_toArray, List.set_cons_succ, List.set_cons_zero]
              refine wpOrd_yield (v := .bool false) rfl (fun u _ => exec_mv rfl rfl) ?_
              simp only [Act.put, List.setIfInBounds_toArray, List.set_cons_succ, List.set_cons_zero]
              refine wpOrd_yield (v := .int .i64 0) rfl (fun u _ => exec_mv rfl rfl) ?_
              simp only [Act.put, List.setIfInBounds_toArray, List.set_cons_succ, List.set_cons_zero]
              refine wpOrd_yield (v := .bool true) rfl (fun u _ => by go_simp) ?_
              simp only [Act.put, List.setIfInBounds_toArray, List.set_cons_succ, List.set_cons_zero]
              refine wpOrd_yield (v := .bool true) rfl (fun u _ => exec_mv rfl rfl) ?_
              simp only [Act.put, List.setIfInBounds_toArray, List.set_cons_succ, List.set_cons_zero]
              refine wpOrd_yield (v := .agg (blk (fillF (book k)))) rfl (fun u hu => exec_ld59 rfl q21 (fillF (book k)) rfl (hu.blk (List.mem_cons_self ..))) ?_
              simp only [Act.put, List.setIfInBounds_toArray, List.set_cons_succ, List.set_cons_zero]
              refine wpOrd_yield (v := .int .i64 (k : Int)) rfl (fun u _ => exec_mv rfl rfl) ?_
              simp only [Act.put, List.setIfInBounds_toArray, List.set_cons_succ, List.set_cons_zero]
              refine wpOrd_yield (v := .pointer (some ⟨g, k, none⟩)) rfl (fun u _ => by go_simp) ?_
              simp only [Act.put, List.setIfInBounds_toArray, List.set_cons_succ, List.set_cons_zero]
              refine wpOrd_yield (v := .int .u16 (book k)) rfl (fun u hu => exec_ld44 rfl rfl (by rw [Joins.cell_of_block (hu.blk (List.mem_cons_of_mem _ (List.mem_cons_of_mem _ (List.mem_cons_of_mem _ (List.mem_cons_self ..))))), uRow_get book k hk16])) ?_
              simp only [Act.put, List.setIfInBounds_toArray, List.set_cons_succ, List.set_cons_zero]
              refine wpOrd_call rfl 35 _ _ rfl Try.call35 [.int .u16 (book k)] rfl ?_
              refine (fill_any (book k) (HT.out.bb k) _).mono ?_
              rintro e Y1 ⟨rfl, hy⟩
              have HSS2 := Hid.mk' (HSS.out.later hy)
              clear hy HSS
              have HSS := HSS2
              clear HSS2
              refine ⟨_, rfl, HSS.out, ?_⟩
              simp only [Act.put, List.setIfInBounds_toArray, List.set_cons_succ, List.set_cons_zero]
              refine wpOrd_yield (v := .bool false) rfl (fun u _ => exec_neB rfl rfl rfl u) ?_
              simp only [Act.put, List.setIfInBounds_toArray, List.set_cons_succ, List.set_cons_zero]
              refine wpOrd_yield (v := .bool false) rfl (fun u _ => by go_simp) ?_
              simp only [Act.put, List.setIfInBounds_toArray, List.set_cons_succ, List.set_cons_zero]
              refine wpOrd_yield (v := .bool false) rfl (fun u _ => by go_simp) ?_
              simp only [Act.put, List.setIfInBounds_toArray, List.set_cons_succ, List.set_cons_zero]
              refine wpOrd_yield (v := .bool false) rfl (fun u _ => exec_mv rfl rfl) ?_
              simp only [Act.put, List.setIfInBounds_toArray, List.set_cons_succ, List.set_cons_zero]
              refine wpOrd_yield (v := .int .i64 0) rfl (fun u _ => exec_mv rfl rfl) ?_
              simp only [Act.put, List.setIfInBounds_toArray, List.set_cons_succ, List.set_cons_zero]
              refine wpOrd_yield (v := .bool false) rfl (fun u _ => by go_simp) ?_
              simp only [Act.put, List.setIfInBounds_toArray, List.set_cons_succ, List.set_cons_zero]
              refine wpOrd_yield (v := .bool false) rfl (fun u _ => exec_mv rfl rfl) ?_
              simp only [Act.put, List.setIfInBounds_toArray, List.set_cons_succ, List.set_cons_zero]
              refine wpOrd_skip HSS.out rfl ?_
              simp only [Act.put, List.setIfInBounds_toArray, List.set_cons_succ, List.set_cons_zero]
              refine wpOrd_skip HSS.out rfl ?_
              simp only [Act.put, List.setIfInBounds_toArray, List.set_cons_succ, List.set_cons_zero]
              refine wpOrd_yield (v := .bool false) rfl (fun u _ => by go_simp) ?_
              simp only [Act.put, List.setIfInBounds_toArray, List.set_cons_succ, List.set_cons_zero]
              refine wpOrd_yield (v := .bool false) rfl (fun u _ => by go_simp) ?_
              simp only [Act.put, List.setIfInBounds_toArray, List.set_cons_succ, List.set_cons_zero]
              refine wpOrd_yield (v := .bool false) rfl (fun u _ => exec_mv rfl rfl) ?_
              simp only [Act.put, List.setIfInBounds_toArray, List.set_cons_succ, List.set_cons_zero]
              refine wpOrd_yield (v := .bool false) rfl (fun u _ => exec_mv rfl rfl) ?_
              simp only [Act.put, List.setIfInBounds_toArray, List.set_cons_succ, List.set_cons_zero]
              refine wpOrd_yield (v := .int .i64 0) rfl (fun u _ => exec_mv rfl rfl) ?_
              simp only [Act.put, List.setIfInBounds_toArray, List.set_cons_succ, List.set_cons_zero]
              refine wpOrd_yield (v := .bool false) rfl (fun u _ => by go_simp) ?_
              simp only [Act.put, List.setIfInBounds_toArray, List.set_cons_succ, List.set_cons_zero]
              refine wpOrd_yield (v := .bool false) rfl (fun u _ => by go_simp) ?_
              simp only [Act.put, List.setIfInBounds_toArray, List.set_cons_succ, List.set_cons_zero]
              refine wpOrd_yield (v := .bool false) rfl (fun u _ => by go_simp) ?_
              simp only [Act.put, List.setIfInBounds_toArray, List.set_cons_succ, List.set_cons_zero]
              refine wpOrd_nil ?_
              clear hLs
              generalize hW7 : Y1 = W7 at *
              clear hW7
              have H7 : Hid (Sit w W7 c d S7 T7 [(g + 1 + 1, .cells (bRow fast) 83), (g + 1, .cells (uRow out) 81), (g, .cells (uRow book) 81)]) := HSS.out.drop (by simp)
              clear HSS
              have hF := sit_fast H7.out
              rw [hfn7] at hF
              have hL := sit_len H7.out
              have hO := sit_order H7.out
              have hlen1 := H7.out.ok.1.len
              rw [HT7.out.size] at hlen1
              have hlen2 := fastN_le (S7).row
              have hol : (ordV (S7).row).length = (S7).row.length := by unfold ordV; rw [List.length_map]
              rw [hol] at hO
              obtain ⟨ln, hln⟩ : ∃ ln, (S7).row.length = ln := ⟨_, rfl⟩
              have hL9 : Hid (∀ W9, Below (W7).heap.size (W7) W9 → Calls Try.prog 29 #[.pointer (some ⟨c, 0, none⟩)] W9 fun e W' => e = .returned (.int .i64 (ln : Int)) ∧ W' = W9) := fun W9 hb => by
                have q := sit_len (H7.out.later hb)
                rw [hln] at q
                exact q
              have hM9 : Hid (∀ W9, Below (W7).heap.size (W7) W9 → Calls Try.prog 16 #[.pointer (some ⟨d, 0, none⟩)] W9 fun e W' => e = .returned (.int .i64 ((wn : Int))) ∧ W' = W9) := fun W9 hb => by
                have q := dsit_made (H7.out.later hb)
                rw [HT7.out.tr.made] at q
                exact q
              rw [hln] at hL hO hlen1 hlen2
              have hfl7 : (fn) ≤ (ln : Int) := by rw [← hfn7]; omega
              have HO := Hid.mk' hO
              unfold ptr at hF hL HO
              clear hO hln hol hlen2
              go_wp2_with (first | (go_at_call 27; refine hF.mono ?_; rintro e V1 ⟨rfl, he⟩; obtain rfl := he.symm; clear he) | (go_at_call 29; refine hL.mono ?_; rintro e V2 ⟨rfl, he⟩; obtain rfl := he.symm; clear he) | (go_at_call 31; fail))
              refine HO.out.mono ?_
              rintro e W9 ⟨p9, c9, rfl, _, _, hb9, _⟩
              have H9 := Hid.mk' (H7.out.later hb9)
              have hL8 := hL9.out W9 hb9
              have hM8 := hM9.out W9 hb9
              clear HO hF hL hL9 hM9 hb9
              go_wp2_with (first | (go_at_call 29; refine hL8.mono ?_; rintro e V2 ⟨rfl, he⟩; obtain rfl := he.symm; clear he) | (go_at_call 16; refine hM8.mono ?_; rintro e V3 ⟨rfl, he⟩; obtain rfl := he.symm; clear he))
              exact ⟨⟨i + 1, S7, T7, book, out, fast, wn, by omega, by go_num, by rw [hfn7], by go_num, HT7.out, H9.out⟩, by simp [intOf]; omega⟩
      · clear k3
        cases hfk : fast k
        · rw [hfk] at hcf
          by_cases hq : fn = (N : Int)
          · subst hq
            as_aux_lemma =>
              have k3b := (HS.out.below.cell (p := ⟨b, off + i * 4 + 3, none⟩) hAb).trans hA3
              go_wp2_with (go_at_call 35; fail)
              refine (fill_any fl hfl _).mono ?_
              rintro e V5 ⟨rfl, hb5⟩
              have h5 := HS.out.later hb5
              have k3c := (h5.below.cell (p := ⟨b, off + i * 4 + 3, none⟩) hAb).trans hA3
              have HPt : Hid (Calls Try.prog 25 _ V5 _) := sit_put h5 (k : Int) (fill_can fl hfl)
              clear h5 hb5 HS
              go_wp2_with (go_at_call 25; fail)
              refine HPt.out.mono ?_
              rintro e W6 ⟨rfl, h6⟩
              have hu : usedE s t (k : Int) = 160 := by rw [HT.out.used (by omega), if_pos ⟨hfn, hfk⟩]
              rw [hu]
              rw [put_full hu] at h6
              have hfn7 := hfn
              have H7 := Hid.mk' h6
              have HT7 := Hid.mk' HT.out.more
              clear h6 HPt hu hcf
              have hF := sit_fast H7.out
              rw [hfn7] at hF
              have hL := sit_len H7.out
              have hO := sit_order H7.out
              have hlen1 := H7.out.ok.1.len
              rw [HT7.out.size] at hlen1
              have hlen2 := fastN_le (s).row
              have hol : (ordV (s).row).length = (s).row.length := by unfold ordV; rw [List.length_map]
              rw [hol] at hO
              obtain ⟨ln, hln⟩ : ∃ ln, (s).row.length = ln := ⟨_, rfl⟩
              have hL9 : Hid (∀ W9, Below (W6).heap.size (W6) W9 → Calls Try.prog 29 #[.pointer (some ⟨c, 0, none⟩)] W9 fun e W' => e = .returned (.int .i64 (ln : Int)) ∧ W' = W9) := fun W9 hb => by
                have q := sit_len (H7.out.later hb)
                rw [hln] at q
                exact q
              have hM9 : Hid (∀ W9, Below (W6).heap.size (W6) W9 → Calls Try.prog 16 #[.pointer (some ⟨d, 0, none⟩)] W9 fun e W' => e = .returned (.int .i64 ((wn : Int))) ∧ W' = W9) := fun W9 hb => by
                have q := dsit_made (H7.out.later hb)
                rw [HT7.out.tr.made] at q
                exact q
              rw [hln] at hL hO hlen1 hlen2
              have hfl7 : ((N : Int)) ≤ (ln : Int) := by rw [← hfn7]; omega
              have HO := Hid.mk' hO
              unfold ptr at hF hL HO
              clear hO hln hol hlen2
              go_wp2_with (first | (go_at_call 27; refine hF.mono ?_; rintro e V1 ⟨rfl, he⟩; obtain rfl := he.symm; clear he) | (go_at_call 29; refine hL.mono ?_; rintro e V2 ⟨rfl, he⟩; obtain rfl := he.symm; clear he) | (go_at_call 31; fail))
              refine HO.out.mono ?_
              rintro e W9 ⟨p9, c9, rfl, _, _, hb9, _⟩
              have H9 := Hid.mk' (H7.out.later hb9)
              have hL8 := hL9.out W9 hb9
              have hM8 := hM9.out W9 hb9
              clear HO hF hL hL9 hM9 hb9
              go_wp2_with (first | (go_at_call 29; refine hL8.mono ?_; rintro e V2 ⟨rfl, he⟩; obtain rfl := he.symm; clear he) | (go_at_call 16; refine hM8.mono ?_; rintro e V3 ⟨rfl, he⟩; obtain rfl := he.symm; clear he))
              exact ⟨⟨i + 1, s, t, book, out, fast, wn, by omega, by go_num, by rw [hfn7], by go_num, HT7.out, H9.out⟩, by simp [intOf]; omega⟩
          · have hq' : (fn == (N : Int)) = false := by simp [hq]
            as_aux_lemma =>
              have k3b := (HS.out.below.cell (p := ⟨b, off + i * 4 + 3, none⟩) hAb).trans hA3
              go_wp2_with (go_at_call 35; fail)
              refine (fill_any fl hfl _).mono ?_
              rintro e V5 ⟨rfl, hb5⟩
              have h5 := HS.out.later hb5
              have k3c := (h5.below.cell (p := ⟨b, off + i * 4 + 3, none⟩) hAb).trans hA3
              have HPt : Hid (Calls Try.prog 25 _ V5 _) := sit_put h5 (k : Int) (fill_can fl hfl)
              clear h5 hb5 HS
              go_wp2_with (go_at_call 25; fail)
              refine HPt.out.mono ?_
              rintro e W6 ⟨rfl, h6⟩
              have hu : usedE s t (k : Int) = 0 := by rw [HT.out.used (by omega), if_neg (fun q => hq (hfn.symm.trans q.1))]
              obtain ⟨t7, hfn7⟩ := HT.out.putOk (k := (k : Int)) (by omega) hu hfl h6.ok.1
              rw [hfk] at hfn7
              simp only [Bool.false_eq_true, if_false] at hfn7
              rw [hu]
              have k3d := (h6.below.cell (p := ⟨b, off + i * 4 + 3, none⟩) hAb).trans hA3
              have hb6b := h6.blk (List.mem_cons_of_mem _ (List.mem_cons_of_mem _ (List.mem_cons_self ..)))
              have c6b : W6.cell? ⟨g, k, none⟩ = some (.int .u16 (book k)) := by rw [Joins.cell_of_block hb6b, uRow_get book k hk16]
              have f6b := Joins.unfrozen_of_block hb6b k
              have h6a : Sit w W6 c d (putC s t k (fillF fl)) t [(g, .cells (uRow book) 81), (g + 1 + 1, .cells (bRow fast) 83), (g + 1, .cells (uRow out) 81)] := h6.drop (by simp)
              have h7 := h6a.setCell (i := k) (v := .int .u16 fl) (by omega) (by simp; omega)
              rw [uRow_set] at h7
              have h7a : Sit w (W6.setCell ⟨g, k, none⟩ (.int .u16 fl)) c d (putC s t k (fillF fl)) t [(g + 1 + 1, .cells (bRow fast) 83), (g + 1, .cells (uRow out) 81), (g, .cells (uRow fun j => if j = (k : Int) then fl else book j) 81)] := h7.drop (by simp)
              have hb7 := h7a.blk (List.mem_cons_self ..)
              have c7 : (W6.setCell ⟨g, k, none⟩ (.int .u16 fl)).cell? ⟨g + 1 + 1, k, none⟩ = some (.bool false) := by rw [Joins.cell_of_block hb7, bRow_get fast k hk16, hfk]
              have f7 := Joins.unfrozen_of_block hb7 k
              have h8 := h7a.setCell (i := k) (v := .bool true) (by omega) (by simp; omega)
              rw [bRow_set] at h8
              have H7 := Hid.mk' h8
              have HT7 := Hid.mk' t7
              clear h6 h6a h7 h7a h8 hb7 hb6b HPt hcf t7 hu
              generalize hS7 : putC s t (k : Int) (fillF fl) = S7 at *
              rw [hfn] at hfn7
              clear hS7
              have hF := sit_fast H7.out
              rw [hfn7] at hF
              have hL := sit_len H7.out
              have hO := sit_order H7.out
              have hlen1 := H7.out.ok.1.len
              rw [HT7.out.size] at hlen1
              have hlen2 := fastN_le (S7).row
              have hol : (ordV (S7).row).length = (S7).row.length := by unfold ordV; rw [List.length_map]
              rw [hol] at hO
              obtain ⟨ln, hln⟩ : ∃ ln, (S7).row.length = ln := ⟨_, rfl⟩
              have hL9 : Hid (∀ W9, Below ((W6.setCell ⟨g, k, none⟩ (.int .u16 fl)).setCell ⟨g + 1 + 1, k, none⟩ (.bool true)).heap.size ((W6.setCell ⟨g, k, none⟩ (.int .u16 fl)).setCell ⟨g + 1 + 1, k, none⟩ (.bool true)) W9 → Calls Try.prog 29 #[.pointer (some ⟨c, 0, none⟩)] W9 fun e W' => e = .returned (.int .i64 (ln : Int)) ∧ W' = W9) := fun W9 hb => by
                have q := sit_len (H7.out.later hb)
                rw [hln] at q
                exact q
              have hM9 : Hid (∀ W9, Below ((W6.setCell ⟨g, k, none⟩ (.int .u16 fl)).setCell ⟨g + 1 + 1, k, none⟩ (.bool true)).heap.size ((W6.setCell ⟨g, k, none⟩ (.int .u16 fl)).setCell ⟨g + 1 + 1, k, none⟩ (.bool true)) W9 → Calls Try.prog 16 #[.pointer (some ⟨d, 0, none⟩)] W9 fun e W' => e = .returned (.int .i64 ((wn : Int))) ∧ W' = W9) := fun W9 hb => by
                have q := dsit_made (H7.out.later hb)
                rw [HT7.out.tr.made] at q
                exact q
              rw [hln] at hL hO hlen1 hlen2
              have hfl7 : (fn + 1) ≤ (ln : Int) := by rw [← hfn7]; omega
              have HO := Hid.mk' hO
              unfold ptr at hF hL HO
              clear hO hln hol hlen2
              go_wp2_with (first | (go_at_call 27; refine hF.mono ?_; rintro e V1 ⟨rfl, he⟩; obtain rfl := he.symm; clear he) | (go_at_call 29; refine hL.mono ?_; rintro e V2 ⟨rfl, he⟩; obtain rfl := he.symm; clear he) | (go_at_call 31; fail))
              refine HO.out.mono ?_
              rintro e W9 ⟨p9, c9, rfl, _, _, hb9, _⟩
              have H9 := Hid.mk' (H7.out.later hb9)
              have hL8 := hL9.out W9 hb9
              have hM8 := hM9.out W9 hb9
              clear HO hF hL hL9 hM9 hb9
              go_wp2_with (first | (go_at_call 29; refine hL8.mono ?_; rintro e V2 ⟨rfl, he⟩; obtain rfl := he.symm; clear he) | (go_at_call 16; refine hM8.mono ?_; rintro e V3 ⟨rfl, he⟩; obtain rfl := he.symm; clear he))
              exact ⟨⟨i + 1, S7, t, _, out, _, wn, by omega, by go_num, by rw [hfn7], by go_num, HT7.out, H9.out⟩, by simp [intOf]; omega⟩
        · rw [hfk] at hcf
          by_cases hq : fn = (N : Int)
          · subst hq
            as_aux_lemma =>
              have k3b := (HS.out.below.cell (p := ⟨b, off + i * 4 + 3, none⟩) hAb).trans hA3
              go_wp2_with (go_at_call 35; fail)
              refine (fill_any fl hfl _).mono ?_
              rintro e V5 ⟨rfl, hb5⟩
              have h5 := HS.out.later hb5
              have k3c := (h5.below.cell (p := ⟨b, off + i * 4 + 3, none⟩) hAb).trans hA3
              have HPt : Hid (Calls Try.prog 25 _ V5 _) := sit_put h5 (k : Int) (fill_can fl hfl)
              clear h5 hb5 HS
              go_wp2_with (go_at_call 25; fail)
              refine HPt.out.mono ?_
              rintro e W6 ⟨rfl, h6⟩
              have hu : usedE s t (k : Int) = 0 := by rw [HT.out.used (by omega), if_neg (fun q => by rw [hfk] at q; exact absurd q.2 (by simp))]
              obtain ⟨t7, hfn7⟩ := HT.out.putOk (k := (k : Int)) (by omega) hu hfl h6.ok.1
              rw [hfk] at hfn7
              simp only [if_true, Int.add_zero] at hfn7
              rw [hu]
              have k3d := (h6.below.cell (p := ⟨b, off + i * 4 + 3, none⟩) hAb).trans hA3
              have hb6b := h6.blk (List.mem_cons_of_mem _ (List.mem_cons_of_mem _ (List.mem_cons_self ..)))
              have c6b : W6.cell? ⟨g, k, none⟩ = some (.int .u16 (book k)) := by rw [Joins.cell_of_block hb6b, uRow_get book k hk16]
              have f6b := Joins.unfrozen_of_block hb6b k
              have h6a : Sit w W6 c d (putC s t k (fillF fl)) t [(g, .cells (uRow book) 81), (g + 1 + 1, .cells (bRow fast) 83), (g + 1, .cells (uRow out) 81)] := h6.drop (by simp)
              have h7 := h6a.setCell (i := k) (v := .int .u16 fl) (by omega) (by simp; omega)
              rw [uRow_set] at h7
              have h7a : Sit w (W6.setCell ⟨g, k, none⟩ (.int .u16 fl)) c d (putC s t k (fillF fl)) t [(g + 1 + 1, .cells (bRow fast) 83), (g + 1, .cells (uRow out) 81), (g, .cells (uRow fun j => if j = (k : Int) then fl else book j) 81)] := h7.drop (by simp)
              have hb7 := h7a.blk (List.mem_cons_self ..)
              have c7 : (W6.setCell ⟨g, k, none⟩ (.int .u16 fl)).cell? ⟨g + 1 + 1, k, none⟩ = some (.bool true) := by rw [Joins.cell_of_block hb7, bRow_get fast k hk16, hfk]
              have f7 := Joins.unfrozen_of_block hb7 k
              have h8 := h7a.setCell (i := k) (v := .bool true) (by omega) (by simp; omega)
              rw [bRow_set] at h8
              have H7 := Hid.mk' h8
              have HT7 := Hid.mk' t7
              clear h6 h6a h7 h7a h8 hb7 hb6b HPt hcf t7 hu
              generalize hS7 : putC s t (k : Int) (fillF fl) = S7 at *
              rw [hfn] at hfn7
              clear hS7
              have hF := sit_fast H7.out
              rw [hfn7] at hF
              have hL := sit_len H7.out
              have hO := sit_order H7.out
              have hlen1 := H7.out.ok.1.len
              rw [HT7.out.size] at hlen1
              have hlen2 := fastN_le (S7).row
              have hol : (ordV (S7).row).length = (S7).row.length := by unfold ordV; rw [List.length_map]
              rw [hol] at hO
              obtain ⟨ln, hln⟩ : ∃ ln, (S7).row.length = ln := ⟨_, rfl⟩
              have hL9 : Hid (∀ W9, Below ((W6.setCell ⟨g, k, none⟩ (.int .u16 fl)).setCell ⟨g + 1 + 1, k, none⟩ (.bool true)).heap.size ((W6.setCell ⟨g, k, none⟩ (.int .u16 fl)).setCell ⟨g + 1 + 1, k, none⟩ (.bool true)) W9 → Calls Try.prog 29 #[.pointer (some ⟨c, 0, none⟩)] W9 fun e W' => e = .returned (.int .i64 (ln : Int)) ∧ W' = W9) := fun W9 hb => by
                have q := sit_len (H7.out.later hb)
                rw [hln] at q
                exact q
              have hM9 : Hid (∀ W9, Below ((W6.setCell ⟨g, k, none⟩ (.int .u16 fl)).setCell ⟨g + 1 + 1, k, none⟩ (.bool true)).heap.size ((W6.setCell ⟨g, k, none⟩ (.int .u16 fl)).setCell ⟨g + 1 + 1, k, none⟩ (.bool true)) W9 → Calls Try.prog 16 #[.pointer (some ⟨d, 0, none⟩)] W9 fun e W' => e = .returned (.int .i64 ((wn : Int))) ∧ W' = W9) := fun W9 hb => by
                have q := dsit_made (H7.out.later hb)
                rw [HT7.out.tr.made] at q
                exact q
              rw [hln] at hL hO hlen1 hlen2
              have hfl7 : ((N : Int)) ≤ (ln : Int) := by rw [← hfn7]; omega
              have HO := Hid.mk' hO
              unfold ptr at hF hL HO
              clear hO hln hol hlen2
              go_wp2_with (first | (go_at_call 27; refine hF.mono ?_; rintro e V1 ⟨rfl, he⟩; obtain rfl := he.symm; clear he) | (go_at_call 29; refine hL.mono ?_; rintro e V2 ⟨rfl, he⟩; obtain rfl := he.symm; clear he) | (go_at_call 31; fail))
              refine HO.out.mono ?_
              rintro e W9 ⟨p9, c9, rfl, _, _, hb9, _⟩
              have H9 := Hid.mk' (H7.out.later hb9)
              have hL8 := hL9.out W9 hb9
              have hM8 := hM9.out W9 hb9
              clear HO hF hL hL9 hM9 hb9
              go_wp2_with (first | (go_at_call 29; refine hL8.mono ?_; rintro e V2 ⟨rfl, he⟩; obtain rfl := he.symm; clear he) | (go_at_call 16; refine hM8.mono ?_; rintro e V3 ⟨rfl, he⟩; obtain rfl := he.symm; clear he))
              exact ⟨⟨i + 1, S7, t, _, out, _, wn, by omega, by go_num, by rw [hfn7], by go_num, HT7.out, H9.out⟩, by simp [intOf]; omega⟩
          · have hq' : (fn == (N : Int)) = false := by simp [hq]
            as_aux_lemma =>
              have k3b := (HS.out.below.cell (p := ⟨b, off + i * 4 + 3, none⟩) hAb).trans hA3
              go_wp2_with (go_at_call 35; fail)
              refine (fill_any fl hfl _).mono ?_
              rintro e V5 ⟨rfl, hb5⟩
              have h5 := HS.out.later hb5
              have k3c := (h5.below.cell (p := ⟨b, off + i * 4 + 3, none⟩) hAb).trans hA3
              have HPt : Hid (Calls Try.prog 25 _ V5 _) := sit_put h5 (k : Int) (fill_can fl hfl)
              clear h5 hb5 HS
              go_wp2_with (go_at_call 25; fail)
              refine HPt.out.mono ?_
              rintro e W6 ⟨rfl, h6⟩
              have hu : usedE s t (k : Int) = 0 := by rw [HT.out.used (by omega), if_neg (fun q => by rw [hfk] at q; exact absurd q.2 (by simp))]
              obtain ⟨t7, hfn7⟩ := HT.out.putOk (k := (k : Int)) (by omega) hu hfl h6.ok.1
              rw [hfk] at hfn7
              simp only [if_true, Int.add_zero] at hfn7
              rw [hu]
              have k3d := (h6.below.cell (p := ⟨b, off + i * 4 + 3, none⟩) hAb).trans hA3
              have hb6b := h6.blk (List.mem_cons_of_mem _ (List.mem_cons_of_mem _ (List.mem_cons_self ..)))
              have c6b : W6.cell? ⟨g, k, none⟩ = some (.int .u16 (book k)) := by rw [Joins.cell_of_block hb6b, uRow_get book k hk16]
              have f6b := Joins.unfrozen_of_block hb6b k
              have h6a : Sit w W6 c d (putC s t k (fillF fl)) t [(g, .cells (uRow book) 81), (g + 1 + 1, .cells (bRow fast) 83), (g + 1, .cells (uRow out) 81)] := h6.drop (by simp)
              have h7 := h6a.setCell (i := k) (v := .int .u16 fl) (by omega) (by simp; omega)
              rw [uRow_set] at h7
              have h7a : Sit w (W6.setCell ⟨g, k, none⟩ (.int .u16 fl)) c d (putC s t k (fillF fl)) t [(g + 1 + 1, .cells (bRow fast) 83), (g + 1, .cells (uRow out) 81), (g, .cells (uRow fun j => if j = (k : Int) then fl else book j) 81)] := h7.drop (by simp)
              have hb7 := h7a.blk (List.mem_cons_self ..)
              have c7 : (W6.setCell ⟨g, k, none⟩ (.int .u16 fl)).cell? ⟨g + 1 + 1, k, none⟩ = some (.bool true) := by rw [Joins.cell_of_block hb7, bRow_get fast k hk16, hfk]
              have f7 := Joins.unfrozen_of_block hb7 k
              have h8 := h7a.setCell (i := k) (v := .bool true) (by omega) (by simp; omega)
              rw [bRow_set] at h8
              have H7 := Hid.mk' h8
              have HT7 := Hid.mk' t7
              clear h6 h6a h7 h7a h8 hb7 hb6b HPt hcf t7 hu
              generalize hS7 : putC s t (k : Int) (fillF fl) = S7 at *
              rw [hfn] at hfn7
              clear hS7
              have hF := sit_fast H7.out
              rw [hfn7] at hF
              have hL := sit_len H7.out
              have hO := sit_order H7.out
              have hlen1 := H7.out.ok.1.len
              rw [HT7.out.size] at hlen1
              have hlen2 := fastN_le (S7).row
              have hol : (ordV (S7).row).length = (S7).row.length := by unfold ordV; rw [List.length_map]
              rw [hol] at hO
              obtain ⟨ln, hln⟩ : ∃ ln, (S7).row.length = ln := ⟨_, rfl⟩
              have hL9 : Hid (∀ W9, Below ((W6.setCell ⟨g, k, none⟩ (.int .u16 fl)).setCell ⟨g + 1 + 1, k, none⟩ (.bool true)).heap.size ((W6.setCell ⟨g, k, none⟩ (.int .u16 fl)).setCell ⟨g + 1 + 1, k, none⟩ (.bool true)) W9 → Calls Try.prog 29 #[.pointer (some ⟨c, 0, none⟩)] W9 fun e W' => e = .returned (.int .i64 (ln : Int)) ∧ W' = W9) := fun W9 hb => by
                have q := sit_len (H7.out.later hb)
                rw [hln] at q
                exact q
              have hM9 : Hid (∀ W9, Below ((W6.setCell ⟨g, k, none⟩ (.int .u16 fl)).setCell ⟨g + 1 + 1, k, none⟩ (.bool true)).heap.size ((W6.setCell ⟨g, k, none⟩ (.int .u16 fl)).setCell ⟨g + 1 + 1, k, none⟩ (.bool true)) W9 → Calls Try.prog 16 #[.pointer (some ⟨d, 0, none⟩)] W9 fun e W' => e = .returned (.int .i64 ((wn : Int))) ∧ W' = W9) := fun W9 hb => by
                have q := dsit_made (H7.out.later hb)
                rw [HT7.out.tr.made] at q
                exact q
              rw [hln] at hL hO hlen1 hlen2
              have hfl7 : (fn) ≤ (ln : Int) := by rw [← hfn7]; omega
              have HO := Hid.mk' hO
              unfold ptr at hF hL HO
              clear hO hln hol hlen2
              go_wp2_with (first | (go_at_call 27; refine hF.mono ?_; rintro e V1 ⟨rfl, he⟩; obtain rfl := he.symm; clear he) | (go_at_call 29; refine hL.mono ?_; rintro e V2 ⟨rfl, he⟩; obtain rfl := he.symm; clear he) | (go_at_call 31; fail))
              refine HO.out.mono ?_
              rintro e W9 ⟨p9, c9, rfl, _, _, hb9, _⟩
              have H9 := Hid.mk' (H7.out.later hb9)
              have hL8 := hL9.out W9 hb9
              have hM8 := hM9.out W9 hb9
              clear HO hF hL hL9 hM9 hb9
              go_wp2_with (first | (go_at_call 29; refine hL8.mono ?_; rintro e V2 ⟨rfl, he⟩; obtain rfl := he.symm; clear he) | (go_at_call 16; refine hM8.mono ?_; rintro e V3 ⟨rfl, he⟩; obtain rfl := he.symm; clear he))
              exact ⟨⟨i + 1, S7, t, _, out, _, wn, by omega, by go_num, by rw [hfn7], by go_num, HT7.out, H9.out⟩, by simp [intOf]; omega⟩
      · clear k3 hfl hAb hA3
        cases hfk : fast k
        · rw [hfk] at hcf
          by_cases hq : fn = (N : Int)
          · subst hq
            as_aux_lemma =>
              have HFl : Hid (Calls Try.prog 26 _ wr _) := sit_flush HS.out hR.out (k : Int)
              go_wp2_with (go_at_call 26; fail)
              refine HFl.out.mono ?_
              rintro e W6 ⟨rfl, h6⟩
              obtain ⟨e1, _, e2⟩ := HT.out.flush (k := (k : Int)) (by omega) h6.ok.1
              obtain ⟨t7, hfn7⟩ := e2 hfk
              rw [e1]
              have hb6 := h6.blk (List.mem_cons_self ..)
              have c6 : W6.cell? ⟨g + 1 + 1, k, none⟩ = some (.bool false) := by rw [Joins.cell_of_block hb6, bRow_get fast k hk16, hfk]
              have f6 := Joins.unfrozen_of_block hb6 k
              have h7 := h6.setCell (i := k) (v := .bool false) (by omega) (by simp; omega)
              rw [bRow_set] at h7
              have H7 := Hid.mk' h7
              have HT7 := Hid.mk' t7
              clear h6 h7 hb6 HFl HS hcf t7 e1 e2
              generalize hS7 : flushC s t (k : Int) = S7 at *
              generalize hT7 : flushD s t (k : Int) = T7 at *
              rw [hfn] at hfn7
              clear hS7 hT7
              have hF := sit_fast H7.out
              rw [hfn7] at hF
              have hL := sit_len H7.out
              have hO := sit_order H7.out
              have hlen1 := H7.out.ok.1.len
              rw [HT7.out.size] at hlen1
              have hlen2 := fastN_le (S7).row
              have hol : (ordV (S7).row).length = (S7).row.length := by unfold ordV; rw [List.length_map]
              rw [hol] at hO
              obtain ⟨ln, hln⟩ : ∃ ln, (S7).row.length = ln := ⟨_, rfl⟩
              have hL9 : Hid (∀ W9, Below (W6.setCell ⟨g + 1 + 1, k, none⟩ (.bool false)).heap.size (W6.setCell ⟨g + 1 + 1, k, none⟩ (.bool false)) W9 → Calls Try.prog 29 #[.pointer (some ⟨c, 0, none⟩)] W9 fun e W' => e = .returned (.int .i64 (ln : Int)) ∧ W' = W9) := fun W9 hb => by
                have q := sit_len (H7.out.later hb)
                rw [hln] at q
                exact q
              have hM9 : Hid (∀ W9, Below (W6.setCell ⟨g + 1 + 1, k, none⟩ (.bool false)).heap.size (W6.setCell ⟨g + 1 + 1, k, none⟩ (.bool false)) W9 → Calls Try.prog 16 #[.pointer (some ⟨d, 0, none⟩)] W9 fun e W' => e = .returned (.int .i64 ((wn : Int))) ∧ W' = W9) := fun W9 hb => by
                have q := dsit_made (H7.out.later hb)
                rw [HT7.out.tr.made] at q
                exact q
              rw [hln] at hL hO hlen1 hlen2
              have hfl7 : ((N : Int)) ≤ (ln : Int) := by rw [← hfn7]; omega
              have HO := Hid.mk' hO
              unfold ptr at hF hL HO
              clear hO hln hol hlen2
              go_wp2_with (first | (go_at_call 27; refine hF.mono ?_; rintro e V1 ⟨rfl, he⟩; obtain rfl := he.symm; clear he) | (go_at_call 29; refine hL.mono ?_; rintro e V2 ⟨rfl, he⟩; obtain rfl := he.symm; clear he) | (go_at_call 31; fail))
              refine HO.out.mono ?_
              rintro e W9 ⟨p9, c9, rfl, _, _, hb9, _⟩
              have H9 := Hid.mk' (H7.out.later hb9)
              have hL8 := hL9.out W9 hb9
              have hM8 := hM9.out W9 hb9
              clear HO hF hL hL9 hM9 hb9
              go_wp2_with (first | (go_at_call 29; refine hL8.mono ?_; rintro e V2 ⟨rfl, he⟩; obtain rfl := he.symm; clear he) | (go_at_call 16; refine hM8.mono ?_; rintro e V3 ⟨rfl, he⟩; obtain rfl := he.symm; clear he))
              exact ⟨⟨i + 1, S7, T7, book, out, _, wn, by omega, by go_num, by rw [hfn7], by go_num, HT7.out, H9.out⟩, by simp [intOf]; omega⟩
          · have hq' : (fn == (N : Int)) = false := by simp [hq]
            as_aux_lemma =>
              have HFl : Hid (Calls Try.prog 26 _ wr _) := sit_flush HS.out hR.out (k : Int)
              go_wp2_with (go_at_call 26; fail)
              refine HFl.out.mono ?_
              rintro e W6 ⟨rfl, h6⟩
              obtain ⟨e1, _, e2⟩ := HT.out.flush (k := (k : Int)) (by omega) h6.ok.1
              obtain ⟨t7, hfn7⟩ := e2 hfk
              rw [e1]
              have hb6 := h6.blk (List.mem_cons_self ..)
              have c6 : W6.cell? ⟨g + 1 + 1, k, none⟩ = some (.bool false) := by rw [Joins.cell_of_block hb6, bRow_get fast k hk16, hfk]
              have f6 := Joins.unfrozen_of_block hb6 k
              have h7 := h6.setCell (i := k) (v := .bool false) (by omega) (by simp; omega)
              rw [bRow_set] at h7
              have H7 := Hid.mk' h7
              have HT7 := Hid.mk' t7
              clear h6 h7 hb6 HFl HS hcf t7 e1 e2
              generalize hS7 : flushC s t (k : Int) = S7 at *
              generalize hT7 : flushD s t (k : Int) = T7 at *
              rw [hfn] at hfn7
              clear hS7 hT7
              have hF := sit_fast H7.out
              rw [hfn7] at hF
              have hL := sit_len H7.out
              have hO := sit_order H7.out
              have hlen1 := H7.out.ok.1.len
              rw [HT7.out.size] at hlen1
              have hlen2 := fastN_le (S7).row
              have hol : (ordV (S7).row).length = (S7).row.length := by unfold ordV; rw [List.length_map]
              rw [hol] at hO
              obtain ⟨ln, hln⟩ : ∃ ln, (S7).row.length = ln := ⟨_, rfl⟩
              have hL9 : Hid (∀ W9, Below (W6.setCell ⟨g + 1 + 1, k, none⟩ (.bool false)).heap.size (W6.setCell ⟨g + 1 + 1, k, none⟩ (.bool false)) W9 → Calls Try.prog 29 #[.pointer (some ⟨c, 0, none⟩)] W9 fun e W' => e = .returned (.int .i64 (ln : Int)) ∧ W' = W9) := fun W9 hb => by
                have q := sit_len (H7.out.later hb)
                rw [hln] at q
                exact q
              have hM9 : Hid (∀ W9, Below (W6.setCell ⟨g + 1 + 1, k, none⟩ (.bool false)).heap.size (W6.setCell ⟨g + 1 + 1, k, none⟩ (.bool false)) W9 → Calls Try.prog 16 #[.pointer (some ⟨d, 0, none⟩)] W9 fun e W' => e = .returned (.int .i64 ((wn : Int))) ∧ W' = W9) := fun W9 hb => by
                have q := dsit_made (H7.out.later hb)
                rw [HT7.out.tr.made] at q
                exact q
              rw [hln] at hL hO hlen1 hlen2
              have hfl7 : (fn) ≤ (ln : Int) := by rw [← hfn7]; omega
              have HO := Hid.mk' hO
              unfold ptr at hF hL HO
              clear hO hln hol hlen2
              go_wp2_with (first | (go_at_call 27; refine hF.mono ?_; rintro e V1 ⟨rfl, he⟩; obtain rfl := he.symm; clear he) | (go_at_call 29; refine hL.mono ?_; rintro e V2 ⟨rfl, he⟩; obtain rfl := he.symm; clear he) | (go_at_call 31; fail))
              refine HO.out.mono ?_
              rintro e W9 ⟨p9, c9, rfl, _, _, hb9, _⟩
              have H9 := Hid.mk' (H7.out.later hb9)
              have hL8 := hL9.out W9 hb9
              have hM8 := hM9.out W9 hb9
              clear HO hF hL hL9 hM9 hb9
              go_wp2_with (first | (go_at_call 29; refine hL8.mono ?_; rintro e V2 ⟨rfl, he⟩; obtain rfl := he.symm; clear he) | (go_at_call 16; refine hM8.mono ?_; rintro e V3 ⟨rfl, he⟩; obtain rfl := he.symm; clear he))
              exact ⟨⟨i + 1, S7, T7, book, out, _, wn, by omega, by go_num, by rw [hfn7], by go_num, HT7.out, H9.out⟩, by simp [intOf]; omega⟩
        · rw [hfk] at hcf
          by_cases hq : fn = (N : Int)
          · subst hq
            as_aux_lemma =>
              have HFl : Hid (Calls Try.prog 26 _ wr _) := sit_flush HS.out hR.out (k : Int)
              go_wp2_with (go_at_call 26; fail)
              refine HFl.out.mono ?_
              rintro e W6 ⟨rfl, h6⟩
              obtain ⟨e1, e2, _⟩ := HT.out.flush (k := (k : Int)) (by omega) h6.ok.1
              obtain ⟨t7, hfn7⟩ := e2 hfk
              rw [e1]
              have c6 : W6.cell? ⟨g + 1 + 1, k, none⟩ = some (.bool true) := by rw [Joins.cell_of_block (h6.blk (List.mem_cons_self ..)), bRow_get fast k hk16, hfk]
              have hb6b := h6.blk (List.mem_cons_of_mem _ (List.mem_cons_of_mem _ (List.mem_cons_self ..)))
              have c6b : W6.cell? ⟨g, k, none⟩ = some (.int .u16 (book k)) := by rw [Joins.cell_of_block hb6b, uRow_get book k hk16]
              have hb6o := h6.blk (List.mem_cons_of_mem _ (List.mem_cons_self ..))
              have c6o : W6.cell? ⟨g + 1, k, none⟩ = some (.int .u16 (out k)) := by rw [Joins.cell_of_block hb6o, uRow_get out k hk16]
              have f6o := Joins.unfrozen_of_block hb6o k
              have h6a : Sit w W6 c d (flushC s t k) (flushD s t k) [(g + 1, .cells (uRow out) 81), (g + 1 + 1, .cells (bRow fast) 83), (g, .cells (uRow book) 81)] := h6.drop (by simp)
              have h7 := h6a.setCell (i := k) (v := .int .u16 (book k)) (by omega) (by simp)
              rw [uRow_set] at h7
              have h7a : Sit w (W6.setCell ⟨g + 1, k, none⟩ (.int .u16 (book k))) c d (flushC s t k) (flushD s t k) [(g + 1 + 1, .cells (bRow fast) 83), (g + 1, .cells (uRow fun j => if j = (k : Int) then book k else out j) 81), (g, .cells (uRow book) 81)] := h7.drop (by simp)
              have hb7 := h7a.blk (List.mem_cons_self ..)
              have c7 : (W6.setCell ⟨g + 1, k, none⟩ (.int .u16 (book k))).cell? ⟨g + 1 + 1, k, none⟩ = some (.bool true) := by rw [Joins.cell_of_block hb7, bRow_get fast k hk16, hfk]
              have f7 := Joins.unfrozen_of_block hb7 k
              have h8 := h7a.setCell (i := k) (v := .bool false) (by omega) (by simp; omega)
              rw [bRow_set] at h8
              have H7 := Hid.mk' h8
              have HT7 := Hid.mk' t7
              clear h6 h6a h7 h7a h8 hb7 hb6b hb6o HFl HS hcf t7 e1 e2
              generalize hS7 : flushC s t (k : Int) = S7 at *
              generalize hT7 : flushD s t (k : Int) = T7 at *
              rw [hfn] at hfn7
              clear hS7 hT7
              have hF := sit_fast H7.out
              rw [hfn7] at hF
              have hL := sit_len H7.out
              have hO := sit_order H7.out
              have hlen1 := H7.out.ok.1.len
              rw [HT7.out.size] at hlen1
              have hlen2 := fastN_le (S7).row
              have hol : (ordV (S7).row).length = (S7).row.length := by unfold ordV; rw [List.length_map]
              rw [hol] at hO
              obtain ⟨ln, hln⟩ : ∃ ln, (S7).row.length = ln := ⟨_, rfl⟩
              have hL9 : Hid (∀ W9, Below ((W6.setCell ⟨g + 1, k, none⟩ (.int .u16 (book k))).setCell ⟨g + 1 + 1, k, none⟩ (.bool false)).heap.size ((W6.setCell ⟨g + 1, k, none⟩ (.int .u16 (book k))).setCell ⟨g + 1 + 1, k, none⟩ (.bool false)) W9 → Calls Try.prog 29 #[.pointer (some ⟨c, 0, none⟩)] W9 fun e W' => e = .returned (.int .i64 (ln : Int)) ∧ W' = W9) := fun W9 hb => by
                have q := sit_len (H7.out.later hb)
                rw [hln] at q
                exact q
              have hM9 : Hid (∀ W9, Below ((W6.setCell ⟨g + 1, k, none⟩ (.int .u16 (book k))).setCell ⟨g + 1 + 1, k, none⟩ (.bool false)).heap.size ((W6.setCell ⟨g + 1, k, none⟩ (.int .u16 (book k))).setCell ⟨g + 1 + 1, k, none⟩ (.bool false)) W9 → Calls Try.prog 16 #[.pointer (some ⟨d, 0, none⟩)] W9 fun e W' => e = .returned (.int .i64 (((wn + 1 : Nat) : Int))) ∧ W' = W9) := fun W9 hb => by
                have q := dsit_made (H7.out.later hb)
                rw [HT7.out.tr.made] at q
                exact q
              rw [hln] at hL hO hlen1 hlen2
              have hfl7 : ((N : Int) - 1) ≤ (ln : Int) := by rw [← hfn7]; omega
              have HO := Hid.mk' hO
              unfold ptr at hF hL HO
              clear hO hln hol hlen2
              go_wp2_with (first | (go_at_call 27; refine hF.mono ?_; rintro e V1 ⟨rfl, he⟩; obtain rfl := he.symm; clear he) | (go_at_call 29; refine hL.mono ?_; rintro e V2 ⟨rfl, he⟩; obtain rfl := he.symm; clear he) | (go_at_call 31; fail))
              refine HO.out.mono ?_
              rintro e W9 ⟨p9, c9, rfl, _, _, hb9, _⟩
              have H9 := Hid.mk' (H7.out.later hb9)
              have hL8 := hL9.out W9 hb9
              have hM8 := hM9.out W9 hb9
              clear HO hF hL hL9 hM9 hb9
              go_wp2_with (first | (go_at_call 29; refine hL8.mono ?_; rintro e V2 ⟨rfl, he⟩; obtain rfl := he.symm; clear he) | (go_at_call 16; refine hM8.mono ?_; rintro e V3 ⟨rfl, he⟩; obtain rfl := he.symm; clear he))
              exact ⟨⟨i + 1, S7, T7, book, _, _, wn + 1, by omega, by go_num, by rw [hfn7], by go_num, HT7.out, H9.out⟩, by simp [intOf]; omega⟩
          · have hq' : (fn == (N : Int)) = false := by simp [hq]
            as_aux_lemma =>
              have HFl : Hid (Calls Try.prog 26 _ wr _) := sit_flush HS.out hR.out (k : Int)
              go_wp2_with (go_at_call 26; fail)
              refine HFl.out.mono ?_
              rintro e W6 ⟨rfl, h6⟩
              obtain ⟨e1, e2, _⟩ := HT.out.flush (k := (k : Int)) (by omega) h6.ok.1
              obtain ⟨t7, hfn7⟩ := e2 hfk
              rw [e1]
              have c6 : W6.cell? ⟨g + 1 + 1, k, none⟩ = some (.bool true) := by rw [Joins.cell_of_block (h6.blk (List.mem_cons_self ..)), bRow_get fast k hk16, hfk]
              have hb6b := h6.blk (List.mem_cons_of_mem _ (List.mem_cons_of_mem _ (List.mem_cons_self ..)))
              have c6b : W6.cell? ⟨g, k, none⟩ = some (.int .u16 (book k)) := by rw [Joins.cell_of_block hb6b, uRow_get book k hk16]
              have hb6o := h6.blk (List.mem_cons_of_mem _ (List.mem_cons_self ..))
              have c6o : W6.cell? ⟨g + 1, k, none⟩ = some (.int .u16 (out k)) := by rw [Joins.cell_of_block hb6o, uRow_get out k hk16]
              have f6o := Joins.unfrozen_of_block hb6o k
              have h6a : Sit w W6 c d (flushC s t k) (flushD s t k) [(g + 1, .cells (uRow out) 81), (g + 1 + 1, .cells (bRow fast) 83), (g, .cells (uRow book) 81)] := h6.drop (by simp)
              have h7 := h6a.setCell (i := k) (v := .int .u16 (book k)) (by omega) (by simp)
              rw [uRow_set] at h7
              have h7a : Sit w (W6.setCell ⟨g + 1, k, none⟩ (.int .u16 (book k))) c d (flushC s t k) (flushD s t k) [(g + 1 + 1, .cells (bRow fast) 83), (g + 1, .cells (uRow fun j => if j = (k : Int) then book k else out j) 81), (g, .cells (uRow book) 81)] := h7.drop (by simp)
              have hb7 := h7a.blk (List.mem_cons_self ..)
              have c7 : (W6.setCell ⟨g + 1, k, none⟩ (.int .u16 (book k))).cell? ⟨g + 1 + 1, k, none⟩ = some (.bool true) := by rw [Joins.cell_of_block hb7, bRow_get fast k hk16, hfk]
              have f7 := Joins.unfrozen_of_block hb7 k
              have h8 := h7a.setCell (i := k) (v := .bool false) (by omega) (by simp; omega)
              rw [bRow_set] at h8
              have H7 := Hid.mk' h8
              have HT7 := Hid.mk' t7
              clear h6 h6a h7 h7a h8 hb7 hb6b hb6o HFl HS hcf t7 e1 e2
              generalize hS7 : flushC s t (k : Int) = S7 at *
              generalize hT7 : flushD s t (k : Int) = T7 at *
              rw [hfn] at hfn7
              clear hS7 hT7
              have hF := sit_fast H7.out
              rw [hfn7] at hF
              have hL := sit_len H7.out
              have hO := sit_order H7.out
              have hlen1 := H7.out.ok.1.len
              rw [HT7.out.size] at hlen1
              have hlen2 := fastN_le (S7).row
              have hol : (ordV (S7).row).length = (S7).row.length := by unfold ordV; rw [List.length_map]
              rw [hol] at hO
              obtain ⟨ln, hln⟩ : ∃ ln, (S7).row.length = ln := ⟨_, rfl⟩
              have hL9 : Hid (∀ W9, Below ((W6.setCell ⟨g + 1, k, none⟩ (.int .u16 (book k))).setCell ⟨g + 1 + 1, k, none⟩ (.bool false)).heap.size ((W6.setCell ⟨g + 1, k, none⟩ (.int .u16 (book k))).setCell ⟨g + 1 + 1, k, none⟩ (.bool false)) W9 → Calls Try.prog 29 #[.pointer (some ⟨c, 0, none⟩)] W9 fun e W' => e = .returned (.int .i64 (ln : Int)) ∧ W' = W9) := fun W9 hb => by
                have q := sit_len (H7.out.later hb)
                rw [hln] at q
                exact q
              have hM9 : Hid (∀ W9, Below ((W6.setCell ⟨g + 1, k, none⟩ (.int .u16 (book k))).setCell ⟨g + 1 + 1, k, none⟩ (.bool false)).heap.size ((W6.setCell ⟨g + 1, k, none⟩ (.int .u16 (book k))).setCell ⟨g + 1 + 1, k, none⟩ (.bool false)) W9 → Calls Try.prog 16 #[.pointer (some ⟨d, 0, none⟩)] W9 fun e W' => e = .returned (.int .i64 (((wn + 1 : Nat) : Int))) ∧ W' = W9) := fun W9 hb => by
                have q := dsit_made (H7.out.later hb)
                rw [HT7.out.tr.made] at q
                exact q
              rw [hln] at hL hO hlen1 hlen2
              have hfl7 : (fn - 1) ≤ (ln : Int) := by rw [← hfn7]; omega
              have HO := Hid.mk' hO
              unfold ptr at hF hL HO
              clear hO hln hol hlen2
              go_wp2_with (first | (go_at_call 27; refine hF.mono ?_; rintro e V1 ⟨rfl, he⟩; obtain rfl := he.symm; clear he) | (go_at_call 29; refine hL.mono ?_; rintro e V2 ⟨rfl, he⟩; obtain rfl := he.symm; clear he) | (go_at_call 31; fail))
              refine HO.out.mono ?_
              rintro e W9 ⟨p9, c9, rfl, _, _, hb9, _⟩
              have H9 := Hid.mk' (H7.out.later hb9)
              have hL8 := hL9.out W9 hb9
              have hM8 := hM9.out W9 hb9
              clear HO hF hL hL9 hM9 hb9
              go_wp2_with (first | (go_at_call 29; refine hL8.mono ?_; rintro e V2 ⟨rfl, he⟩; obtain rfl := he.symm; clear he) | (go_at_call 16; refine hM8.mono ?_; rintro e V3 ⟨rfl, he⟩; obtain rfl := he.symm; clear he))
              exact ⟨⟨i + 1, S7, T7, book, _, _, wn + 1, by omega, by go_num, by rw [hfn7], by go_num, HT7.out, H9.out⟩, by simp [intOf]; omega⟩
    · as_aux_lemma =>
        obtain rfl : i = m := by omega
        go_wp2
        go_loopw [25] (fun s25 wx => ∃ (j : Nat) (t' : St), j ≤ 16 ∧ s25 = .int .i64 j ∧ Hid (Sit w wx c d s t' [(g + 1 + 1, .cells (bRow fast) 83), (g + 1, .cells (uRow out) 81), (g, .cells (uRow book) 81)] ∧ TR s t' book out fast wn ∧ t'.reads ≤ (i : Int) + (j : Int) ∧ t'.ops.length ≤ i ∧ t'.claims = 0)) (fun s25 _ => 16 - (intOf s25).toNat)
        case atStart => exact ⟨0, t, by omega, rfl, HS.out, HT.out.tr, by have := HT.out.reads; omega, HT.out.ops, HT.out.claims⟩
        case round =>
          obtain ⟨j, t', hj, rfl, HJ⟩ := hrel
          clear HS
          by_cases hj2 : (j : Int) < 16
          · have hj16 : j < 16 := by omega
            have href := HJ.out.2.1.ref (k := (j : Int)) (by omega)
            have hrd := dsit_read HJ.out.1 ⟨by have := HJ.out.2.2.2.1; omega, by rw [HJ.out.2.1.made]; have := HT.out.made; omega, by have := HJ.out.2.2.1; omega, by rw [HJ.out.2.2.2.2]; omega⟩ (j : Int)
            unfold readB readV at hrd
            rw [if_pos href, if_pos href, href, HJ.out.2.1.cur (j : Int) (by omega)] at hrd
            have HRd := Hid.mk' hrd
            have HJ2 : Hid (TR s (readS t') book out fast wn ∧ (readS t').reads ≤ (i : Int) + ((j + 1 : Nat) : Int) ∧ (readS t').ops.length ≤ i ∧ (readS t').claims = 0) := ⟨HJ.out.2.1.readS, by show t'.reads + 1 ≤ _; have := HJ.out.2.2.1; omega, HJ.out.2.2.2.1, HJ.out.2.2.2.2⟩
            clear hrd href HJ
            go_wp2_with (go_at_call 37; fail)
            refine HRd.out.mono ?_
            rintro e Wa ⟨rfl, h1⟩
            have HSS := Hid.mk' (h1.add (.cells (blk (fillF (out j))) 59)).drew
            clear h1 HRd
            go_upto_region 48 with (refine wpList_store58_new rfl (.tmp 26) (.tmp 236) rfl (fillF (out j)) _ _ rfl rfl rfl ?_)
            generalize hq26 : Wa.heap.size = q26 at *
            clear hq26
            refine wp_region_ord (S := fun u => Sit w u c d s (readS t') ((q26, .cells (blk (fillF (out j))) 59) :: [(g + 1 + 1, .cells (bRow fast) 83), (g + 1, .cells (uRow out) 81), (g, .cells (uRow book) 81)])) [(0, true), (1, true), (2, true), (3, true), (4, true), (5, true), (6, true), (7, false), (8, true), (9, true)]
              (by kernel_rfl) rfl (by kernel_rfl) (fun d _ _ _ _ h => by cases d <;> exact h) HSS.out ?_
            simp only [inOrd, List.getElem?_cons_zero, List.getElem?_cons_succ]
            refine wpOrd_yield (v := .int .i64 0) rfl (fun u _ => exec_mv rfl rfl) ?_
            simp only [Act.put, List.setIfInBounds_toArray, List.set_cons_succ, List.set_cons_zero]
            refine wpOrd_yield (v := .bool false) rfl (fun u _ => by go_simp) ?_
            simp only [Act.put, List.setIfInBounds_toArray, List.set_cons_succ, List.set_cons_zero]
            refine wpOrd_yield (v := .bool false) rfl (fun u _ => exec_mv rfl rfl) ?_
            simp only [Act.put, List.setIfInBounds_toArray, List.set_cons_succ, List.set_cons_zero]
            refine wpOrd_yield (v := .agg (blk (fillF (out j)))) rfl (fun u hu => exec_ld59 rfl q26 (fillF (out j)) rfl (hu.blk (List.mem_cons_self ..))) ?_
            simp only [Act.put, List.setIfInBounds_toArray, List.set_cons_succ, List.set_cons_zero]
            refine wpOrd_yield (v := .int .i64 (j : Int)) rfl (fun u _ => exec_mv rfl rfl) ?_
            simp only [Act.put, List.setIfInBounds_toArray, List.set_cons_succ, List.set_cons_zero]
            refine wpOrd_yield (v := .pointer (some ⟨g + 1, j, none⟩)) rfl (fun u _ => by go_simp) ?_
            simp only [Act.put, List.setIfInBounds_toArray, List.set_cons_succ, List.set_cons_zero]
            refine wpOrd_yield (v := .int .u16 (out j)) rfl (fun u hu => exec_ld44 rfl rfl (by rw [Joins.cell_of_block (hu.blk (List.mem_cons_of_mem _ (List.mem_cons_of_mem _ (List.mem_cons_self ..)))), uRow_get out j hj16])) ?_
            simp only [Act.put, List.setIfInBounds_toArray, List.set_cons_succ, List.set_cons_zero]
            refine wpOrd_call rfl 35 _ _ rfl Try.call35 [.int .u16 (out j)] rfl ?_
            refine (fill_any (out j) (HT.out.ob j) _).mono ?_
            rintro e Y1 ⟨rfl, hy⟩
            have HS2 := Hid.mk' (HSS.out.later hy)
            clear hy HSS
            refine ⟨_, rfl, HS2.out, ?_⟩
            simp only [Act.put, List.setIfInBounds_toArray, List.set_cons_succ, List.set_cons_zero]
            refine wpOrd_yield (v := .bool false) rfl (fun u _ => exec_neB rfl rfl rfl u) ?_
            simp only [Act.put, List.setIfInBounds_toArray, List.set_cons_succ, List.set_cons_zero]
            refine wpOrd_yield (v := .bool false) rfl (fun u _ => by go_simp) ?_
            simp only [Act.put, List.setIfInBounds_toArray, List.set_cons_succ, List.set_cons_zero]
            refine wpOrd_nil ?_
            go_wp2
            exact ⟨⟨j + 1, readS t', by omega, by go_num, HS2.out.drop (by simp), HJ2.out⟩, by simp [intOf]; omega⟩
          · have HBk := Hid.mk' HJ.out.1.below
            go_wp2
            go_ret
            exact ⟨rfl, HBk.out⟩
end Go.Proofs.Ytencclpcebpgmaa
