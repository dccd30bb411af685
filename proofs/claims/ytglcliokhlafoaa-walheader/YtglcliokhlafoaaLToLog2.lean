/- The group's blocks are held in the log: the walk; no condition but that numbers do not pass their greatest. -/
import Derived.Test.YtglcliokhlafoaaLToLog
namespace Go.Proofs.Ytglcliokhlafoaa
open Go.RowKit Go.Maps
variable {w W : World} {g d c mb : Nat} {v : Value} {x : LSt} {s : CSt} {t : St} {os ks : List (Nat × Obj)} {base : Nat} {book : Int → Nat → Int}
theorem size31 : (Try.prog.info? 30).map (·.size) = some 9 := by kernel_rfl
theorem loadLay {u : World} (h : u.heap[g]? = some (.cells (lgRow g d c mb v x) 86)) : (loadVar 30 ⟨g, 3, none⟩).run Try.prog u = .ok (.agg (layA x.b x.l x.i)) u :=
  run_loadVar_mid (P := Try.prog) u g 3 30 (layA x.b x.l x.i).toList _ (World.rangeAt_of_block h 3 9) Try.underlying30 rfl size31
theorem exec_loadLay {a : Act} {o : Oper} {u : World} {y : Operand} (ho : o.op = .load 30 y) (hx : a.eval y = .pointer (some ⟨g, 3, none⟩)) (h : u.heap[g]? = some (.cells (lgRow g d c mb v x) 86)) : (execOp a.eval o).run Try.prog u = .ok (.value (.agg (layA x.b x.l x.i))) u := by
  unfold execOp
  simp only [ho, hx, Instr.loadAt, Instr.sureAddr, Sem.run_bind, Sem.run_pure, Result.andThen_ok, loadLay h]
set_option maxRecDepth 20000 in
set_option maxHeartbeats 1600000 in
theorem LS.toLog (h : LS w W g d c mb v x s t os ks) (hc : CInv x.b x.l s t book (inB x)) (hf : (fastN s.row : Int) = x.blocks.length) (hs : t.stopped = false) (hlen : (x.blocks.length : Int) ≤ x.l - 1) (hrng : ∀ k ∈ x.blocks, Dat x.b x.l k) (hrm : Rm t (x.blocks.length + 2)) (hl : x.l ≤ 256) :
    Calls Try.prog 68 #[ptr g] W fun e W' => e = .returned (.int .i64 (runE (lgOps book x.blocks x.blocks.length ++ [none]) t)) ∧ ∃ s', LS w W' g d c mb v x s' (runV (lgOps book x.blocks x.blocks.length ++ [none]) t) os ks ∧ (runE (lgOps book x.blocks x.blocks.length ++ [none]) t = 0 → CInv x.b x.l s' (runV (lgOps book x.blocks x.blocks.length ++ [none]) t) book (inB x) ∧ (fastN s'.row : Int) = x.blocks.length) := by
  have c13 := h.log.c13
  obtain ⟨p, cp, hv, hints, _, _⟩ := h.log.own.ints
  have HI : Hid (LgI w g d c mb v x x.blocks.length t book os ks 0 W) := ⟨s, h, rfl, hc, hf⟩
  have HC : Hid (∀ i wx, LgI w g d c mb v x x.blocks.length t book os ks i wx → wx.cell? ⟨g, 12, none⟩ = some (ptr c) ∧ wx.cell? ⟨g, 1, none⟩ = some (ptr d) ∧ (i < x.blocks.length → ∃ y b o, x.blocks[i]? = some y ∧ p = some ⟨b, o, none⟩ ∧ wx.cell? ⟨b, o + i, none⟩ = some (.int .i64 y))) := fun i wx h1 => by
    obtain ⟨s', h2, _⟩ := h1
    refine ⟨h2.log.c12, h2.log.c1, fun hi => ?_⟩
    obtain ⟨p', cp', hv', hints', _, _⟩ := h2.log.own.ints
    rw [hv] at hv'
    injection hv' with hv' _ _
    subst hv'
    obtain ⟨b, o, rfl, _, hcl⟩ := hints' (by omega)
    exact ⟨_, b, o, List.getElem?_eq_getElem hi, rfl, hcl i _ (List.getElem?_eq_getElem hi)⟩
  have HR : Hid (∀ i wx y, LgI w g d c mb v x x.blocks.length t book os ks i wx → x.blocks[i]? = some y → Calls Try.prog 85 #[ptr c, .int .i64 y] wx fun e W' => e = .returned (.tuple #[.agg (blk (book y)), .int .i64 0]) ∧ LgI w g d c mb v x x.blocks.length t book os ks i W') := fun i wx y h1 hy => by
    obtain ⟨hi, hyy⟩ := List.getElem?_eq_some_iff.1 hy
    exact h1.read hs (by omega) hrng (by rw [← hyy]; exact List.getElem_mem _) (hrm.le (by omega))
  have HW : Hid (∀ i wx y ks', (∀ q ∈ ks, q ∈ ks') → LgI w g d c mb v x x.blocks.length t book os ks' i wx → x.blocks[i]? = some y → Calls Try.prog 63 #[ptr d, .int .i64 (2 + (i : Int)), .agg (blk (book y))] wx fun e W' => (e = .returned (.int .i64 0) ∧ LgI w g d c mb v x x.blocks.length t book os ks' (i + 1) W') ∨ (∃ E, E ≠ 0 ∧ e = .returned (.int .i64 E) ∧ runE (lgOps book x.blocks x.blocks.length ++ [none]) t = E ∧ ∃ s', LS w W' g d c mb v x s' (runV (lgOps book x.blocks x.blocks.length ++ [none]) t) os ks')) := fun i wx y ks' _ h1 hy => by
    obtain ⟨hi, _⟩ := List.getElem?_eq_some_iff.1 hy
    exact h1.write hs hlen hy (hrm.le (by omega))
  have HE : Hid (∀ wx, LgI w g d c mb v x x.blocks.length t book os ks x.blocks.length wx → Calls Try.prog 43 #[ptr d] wx fun e W' => e = .returned (.int .i64 (runE (lgOps book x.blocks x.blocks.length ++ [none]) t)) ∧ ∃ s', LS w W' g d c mb v x s' (runV (lgOps book x.blocks x.blocks.length ++ [none]) t) os ks ∧ (runE (lgOps book x.blocks x.blocks.length ++ [none]) t = 0 → CInv x.b x.l s' (runV (lgOps book x.blocks x.blocks.length ++ [none]) t) book (inB x) ∧ (fastN s'.row : Int) = x.blocks.length)) := fun wx h1 => by
    obtain ⟨s', h2, h3, h4, h5⟩ := h1
    have hRm : Rm (runV (lgOps book x.blocks x.blocks.length) t) 1 := Rm.run (n := 1) (hrm.le (by rw [lgOps_len]; omega))
    obtain ⟨r1, r2⟩ := run_snoc (o := none) h3
    refine (h2.dbarrier (Rm.room hRm)).mono ?_
    rintro e W' ⟨rfl, h6⟩
    rw [r1, r2]
    refine ⟨rfl, s', h6, fun he => ⟨?_, h5⟩⟩
    have hok := h2.sit.ok.2
    have hb : barV (runV (lgOps book x.blocks x.blocks.length) t) = barS (runV (lgOps book x.blocks x.blocks.length) t) := by
      have he : barE (runV (lgOps book x.blocks x.blocks.length) t) = 0 := he
      unfold barE at he
      unfold barV
      split at he
      · omega
      · rename_i q
        rw [if_neg q]
        split at he
        · rename_i q2; rw [if_pos q2]
        · omega
    show CInv x.b x.l s' (barV _) book _
    rw [hb]
    exact h4.disk (barS_nums _).2.2.2.2.1 fun j _ => cur_bar hok j
  have hn : x.blocks.length ≤ 255 := by omega
  clear h hc hf hs hrng hrm hints hlen
  subst hv
  unfold ptr at *
  generalize hm : x.blocks.length = n at *
  go_enter Try.func68, Try.ntmps68
  go_wp2
  go_loopw [13] (fun s13 wx => ∃ k : Nat, k ≤ n ∧ s13 = .int .i64 k ∧ Hid (LgI w g d c mb (.slice p n cp) x n t book os ks k wx)) (fun s13 _ => n - (intOf s13).toNat)
  case atStart => exact ⟨0, by omega, rfl, HI.out⟩
  case round =>
    obtain ⟨k, hk, rfl, HP⟩ := hrel
    obtain ⟨c12, c1, hidx⟩ := HC.out k wr HP.out
    by_cases hk2 : (k : Int) < n
    · have hkl : k < n := by omega
      obtain ⟨y, b0, o0, hy, rfl, hcl⟩ := hidx hkl
      have HR2 := Hid.mk' (HR.out k wr y HP.out hy)
      have HY := Hid.mk' hy
      clear hidx HR HC HE HI c13 HP c1 hy
      go_wp2_with (go_at_call 85; fail)
      refine HR2.out.mono ?_
      rintro e W1 ⟨rfl, h1⟩
      have H1 := Hid.mk' (h1.add (.cells (blk (book y)) 46))
      clear h1 HR2 c12 hcl
      have z25 := zero25
      go_wp2_with (first | refine wpList_store25 rfl (.tmp 5) (.tmp 25) rfl W1.heap.size (book y) rfl rfl _ (heap_alloc_new _ _) ?_)
      rw [World.setRow_alloc_new]
      have hB1 : W1.heap.size < (W1.alloc (.cells (blk (book y)) 46)).heap.size := by simp
      generalize hV : W1.alloc (.cells (blk (book y)) 46) = V at H1 hB1 ⊢
      clear hV
      generalize W1.heap.size = gB at H1 hB1 ⊢
      have hrow := H1.out.row
      have hbl := H1.out.obj (List.mem_cons_self ..)
      refine wp_region_ord (S := fun u => u.heap[g]? = some (.cells (lgRow g d c mb (.slice (some ⟨b0, o0, none⟩) n cp) x) 86) ∧ u.heap[gB]? = some (.cells (blk (book y)) 46)) [(0, true), (1, true), (2, true), (3, true), (4, true), (5, true), (6, true), (7, true), (8, true), (10, true), (9, false), (11, false), (12, true)]
        (by kernel_rfl) rfl (by kernel_rfl) (fun d _ _ _ _ h => by cases d <;> exact h) ⟨hrow, hbl⟩ ?_
      simp only [inOrd, List.getElem?_cons_zero, List.getElem?_cons_succ]
      refine wpOrd_move rfl _ rfl ?_
      simp only [Act.put, List.setIfInBounds_toArray, List.set_cons_succ, List.set_cons_zero]
      refine wpOrd_yield (v := .pointer (some ⟨g, 0, none⟩)) rfl (fun u _ => by go_simp) ?_
      simp only [Act.put, List.setIfInBounds_toArray, List.set_cons_succ, List.set_cons_zero]
      refine wpOrd_yield (v := .pointer (some ⟨g, 1, none⟩)) rfl (fun u _ => by go_simp) ?_
      simp only [Act.put, List.setIfInBounds_toArray, List.set_cons_succ, List.set_cons_zero]
      refine wpOrd_yield (v := .pointer (some ⟨d, 0, none⟩)) rfl (fun u hu => by have c1 : u.cell? ⟨g, 1, none⟩ = some (.pointer (some ⟨d, 0, none⟩)) := Joins.cell_of_block hu.1 1; go_simp) ?_
      simp only [Act.put, List.setIfInBounds_toArray, List.set_cons_succ, List.set_cons_zero]
      refine wpOrd_move rfl _ rfl ?_
      simp only [Act.put, List.setIfInBounds_toArray, List.set_cons_succ, List.set_cons_zero]
      refine wpOrd_yield (v := .pointer (some ⟨g, 0, none⟩)) rfl (fun u _ => by go_simp) ?_
      simp only [Act.put, List.setIfInBounds_toArray, List.set_cons_succ, List.set_cons_zero]
      refine wpOrd_yield (v := .pointer (some ⟨g, 3, none⟩)) rfl (fun u _ => by go_simp) ?_
      simp only [Act.put, List.setIfInBounds_toArray, List.set_cons_succ, List.set_cons_zero]
      refine wpOrd_yield (v := .agg (layA x.b x.l x.i)) rfl (fun u hu => exec_loadLay rfl rfl hu.1) ?_
      simp only [Act.put, List.setIfInBounds_toArray, List.set_cons_succ, List.set_cons_zero]
      refine wpOrd_move rfl _ rfl ?_
      simp only [Act.put, List.setIfInBounds_toArray, List.set_cons_succ, List.set_cons_zero]
      refine wpOrd_yield (v := .agg (blk (book y))) rfl (fun u hu => H.exec_loadB rfl gB (book y) rfl hu.2) ?_
      simp only [Act.put, List.setIfInBounds_toArray, List.set_cons_succ, List.set_cons_zero]
      refine wpOrd_call rfl 42 _ _ rfl Try.call42 [.agg (layA x.b x.l x.i), .int .i64 (k : Int)] rfl ?_
      refine (inLog_any x.b x.l x.i k ⟨by omega, by omega⟩ _).mono ?_
      rintro e X ⟨rfl, rfl⟩
      have H2 := Hid.mk' (H1.out.later (below_next (H.drew_below V) (below_new V.drew (.cells (layA x.b x.l x.i) 30))))
      refine ⟨_, rfl, ⟨H2.out.row, H2.out.obj (List.mem_cons_self ..)⟩, ?_⟩
      clear hrow hbl H1
      generalize V.drew.alloc (.cells (layA x.b x.l x.i) 30) = V2 at H2 ⊢
      simp only [Act.put, List.setIfInBounds_toArray, List.set_cons_succ, List.set_cons_zero]
      refine wpOrd_call rfl 63 _ _ rfl Try.call63 [.pointer (some ⟨d, 0, none⟩), .int .i64 (2 + (k : Int)), .agg (blk (book y))] rfl ?_
      refine (HW.out k V2 y _ (fun q hq => List.mem_cons_of_mem _ hq) H2.out HY.out).mono ?_
      rintro e X (⟨rfl, h3⟩ | ⟨E, hE, rfl, hE2, s', h3⟩)
      · refine ⟨_, rfl, ⟨h3.row, h3.obj (List.mem_cons_self ..)⟩, ?_⟩
        have H3 := Hid.mk' (h3.drop (ks' := ks) fun q hq => List.mem_cons_of_mem _ hq)
        clear h3 H2 HW HY
        simp only [Act.put, List.setIfInBounds_toArray, List.set_cons_succ, List.set_cons_zero]
        refine wpOrd_yield (v := .int .i64 0) rfl (fun u _ => by go_simp) ?_
        refine wpOrd_nil ?_
        simp only [Act.put, List.setIfInBounds_toArray, List.set_cons_succ, List.set_cons_zero]
        go_wp2
        exact ⟨⟨k + 1, by omega, by go_num, H3.out⟩, by simp [intOf]; omega⟩
      · refine ⟨_, rfl, ⟨h3.log.row, h3.sit.blk (List.mem_append.2 (.inr (List.mem_cons_self ..)))⟩, ?_⟩
        have H3 := Hid.mk' (h3.drop (ks' := ks) fun q hq => List.mem_cons_of_mem _ hq)
        have H4 := Hid.mk' hE2
        clear h3 H2 HW HY hE2
        simp only [Act.put, List.setIfInBounds_toArray, List.set_cons_succ, List.set_cons_zero]
        refine wpOrd_yield (v := .int .i64 E) rfl (fun u _ => by go_simp) ?_
        refine wpOrd_nil ?_
        simp only [Act.put, List.setIfInBounds_toArray, List.set_cons_succ, List.set_cons_zero]
        go_wp2
        go_ret
        exact ⟨congrArg (fun z => Ending.returned (.int .i64 z)) H4.out.symm, s', H3.out, fun q => absurd (H4.out.symm.trans q) hE⟩
    · obtain rfl : k = n := by omega
      have HE2 := Hid.mk' (HE.out wr HP.out)
      clear hidx HR HW HC HE HI c13 HP
      go_wp2_with (go_at_call 43; fail)
      refine HE2.out.mono ?_
      rintro e W1 ⟨rfl, h1⟩
      have H1 := Hid.mk' h1
      clear h1 HE2
      go_wp2
      go_ret
      exact ⟨rfl, H1.out⟩
end Go.Proofs.Ytglcliokhlafoaa
