/- The document's may: whether ops may be of an image; no condition but that lists are not longer than lists can be. -/
import Derived.Test.YtbnbbelkddbndaaHList
import Derived.Test.YtbnbbelkddbndaaRecs
import Derived.Test.YtbnbbelkddbndaaRPend
namespace Go.Proofs.Ytbnbbelkddbndaa
open Go.RowKit Go.Maps
theorem exec_ldAt {o : Oper} {a : Act} {W : World} {x : Operand} {ty : TypeId} {p v : Value} (ho : o.op = .load ty x) (hx : a.eval x = p) (h : (Instr.loadAt ty p).run Try.prog W = .ok v W) : (execOp a.eval o).run Try.prog W = .ok (.value v) W := by
  unfold execOp
  simp only [ho, hx, Sem.run_bind, h, Result.andThen_ok, Sem.run_pure]
theorem rec_all (r : Rec) : (recCells r).toArray.all (·.oneCell') = true := by
  rw [Array.all_eq_true_iff_forall_mem]
  intro v hv
  exact recCells_one r v (by simpa using hv)
set_option maxRecDepth 20000 in
set_option maxHeartbeats 2000000 in
theorem refMay_any (n : Int) (L : Nat) (p : Option Addr) (cap : Nat) (ops : List Rec) (po : Option Addr) (co : Nat) (w : World) (hlo : ops.length < 9223372036854775807) (ho : OpsAt w po ops) :
    Calls Try.prog 74 #[.agg #[.int .i64 n, .slice p L cap], .slice po ops.length co] w fun e w' => e = .returned (.bool (ops.all (opOk n))) ∧ Below w.heap.size w w' := by
  have H0 := Hid.mk' (And.intro (below_new w (.cells #[.int .i64 n, .slice p L cap] 24)) (heap_alloc_new w (.cells #[.int .i64 n, .slice p L cap] 24)))
  have HO : Hid (OpsAt w po ops) := ho
  clear ho
  obtain ⟨N, hN⟩ : ∃ N, ops.length = N := ⟨_, rfl⟩
  have HN := Hid.mk' hN
  have HR : Hid (ops.all (opOk n) = (ops.drop 0).all (opOk n)) := rfl
  generalize ops.all (opOk n) = res at *
  rw [hN] at hlo ⊢
  clear hN
  go_enter Try.func74, Try.ntmps74
  go_wp2
  go_loopw [5] (fun s4 wx => ∃ k : Nat, k ≤ N ∧ s4 = .int .i64 k ∧ Hid (Below w.heap.size w wx ∧ wx.heap[w.heap.size]? = some (.cells #[.int .i64 n, .slice p L cap] 24)) ∧ Hid (res = (ops.drop k).all (opOk n))) (fun s4 _ => N - (intOf s4).toNat)
  case atStart => exact ⟨0, by omega, rfl, H0.out, HR.out⟩
  case round =>
    obtain ⟨k, hk, rfl, H9, HR2⟩ := hrel
    clear HR H0
    by_cases hk2 : (k : Int) < N
    · have hlN := HN.out
      have hc : ops[k]? = some (ops[k]'(by omega)) := List.getElem?_eq_getElem _
      obtain ⟨b, off, rfl, hlt, hC⟩ := HO.out (by omega)
      have hd : ops.drop k = ops[k]'(by omega) :: ops.drop (k + 1) := List.drop_eq_getElem_cons (by omega)
      generalize ops[k]'(by omega) = r at hc hd
      have HQ := Hid.mk' (load42 (hC.later H9.out.1 hlt) hc)
      have hR := HR2.out
      rw [hd, List.all_cons] at hR
      obtain ⟨T, hT⟩ : ∃ T, (ops.drop (k + 1)).all (opOk n) = T := ⟨_, rfl⟩
      rw [hT] at hR
      have HT := Hid.mk' hT
      clear hT
      have hbA := below_new wr (.cells (recCells r).toArray 42)
      have hA := heap_alloc_new wr (.cells (recCells r).toArray 42)
      have H10 := Hid.mk' (And.intro (below_next H9.out.1 hbA) (heap_kept H9.out.2 hbA))
      have j0 : (wr.alloc (.cells (recCells r).toArray 42)).cell? ⟨w.heap.size, 0, none⟩ = some (.int .i64 n) := Joins.cell_of_block H10.out.2 0
      have j1 : (wr.alloc (.cells (recCells r).toArray 42)).cell? ⟨wr.heap.size, 0, none⟩ = some (.int .u8 r.kind) := (Joins.cell_of_block hA 0).trans (by simp [recCells])
      have j2 : (wr.alloc (.cells (recCells r).toArray 42)).cell? ⟨wr.heap.size, 1, none⟩ = some (.int .i64 r.pos) := (Joins.cell_of_block hA 1).trans (by simp [recCells])
      have HSz := Hid.mk' (show (Try.prog.info? 42).map (·.size) = some (recCells r).toArray.size by rw [List.size_toArray, recCells_len]; exact size108)
      have HAll := Hid.mk' (rec_all r)
      have HZs := Hid.mk' (show (recCells ⟨0, 0, nought⟩).toArray.size = (recCells r).toArray.size by rw [List.size_toArray, List.size_toArray, recCells_len, recCells_len])
      have z42 := zero108
      unfold opOk at hR
      generalize (recCells ⟨0, 0, nought⟩).toArray = Z at *
      generalize (recCells r).toArray = C at *
      obtain ⟨kd, x, f⟩ := r
      simp only at hR j1 j2
      clear hd hc HR2 hC hbA hA H9 hlN
      go_wp2_with (first | (with_reducible refine isLoadR 42 ?_; refine wpList_exec rfl (exec_ldAt (p := .pointer (some ⟨b, off + k * 1026, none⟩)) (v := .agg C) rfl rfl HQ.out) ?_) | (with_reducible refine isStoreR 42 ?_; refine wpList_stNew 42 rfl _ _ rfl _ C _ 42 HSz.out HZs.out HAll.out rfl rfl rfl ?_; refine Hid.out ?_))
      unfold Hid
      have HFn := Hid.mk' H10.out.1
      by_cases h2 : kd = 2
      · subst h2
        have HR3 : Hid (res = (ops.drop (k + 1)).all (opOk n)) := by
          have e : res = (ops.drop (k + 1)).all (opOk n) := by rw [HT.out, hR]; simp
          exact e
        clear hR j2
        go_wp2
        exact ⟨⟨k + 1, by omega, by go_num, H10.out, HR3.out⟩, by simp [intOf]; omega⟩
      · have d2 : decide (kd = 2) = false := decide_eq_false h2
        by_cases h1 : kd = 1
        · subst h1
          by_cases hx0 : x < 0
          · have hr0 : res = false := by rw [hR]; simp [hx0]
            clear hR
            subst hr0
            go_wp2
            go_ret
            exact ⟨rfl, HFn.out⟩
          · by_cases hx1 : x ≥ n
            · have hr0 : res = false := by rw [hR]; simp [hx1]
              clear hR
              subst hr0
              go_wp2
              go_ret
              exact ⟨rfl, HFn.out⟩
            · have HR3 : Hid (res = (ops.drop (k + 1)).all (opOk n)) := by
                have e : res = (ops.drop (k + 1)).all (opOk n) := by rw [HT.out, hR]; simp [hx0, hx1]
                exact e
              clear hR
              go_wp2
              exact ⟨⟨k + 1, by omega, by go_num, H10.out, HR3.out⟩, by simp [intOf]; omega⟩
        · have d1 : decide (kd = 1) = false := decide_eq_false h1
          have hr0 : res = false := by rw [hR]; simp [h1, h2]
          clear hR
          subst hr0
          go_wp2
          go_ret
          exact ⟨rfl, HFn.out⟩
    · have hr0 : res = true := by rw [HR2.out, List.drop_of_length_le (by have := HN.out; omega)]; rfl
      have HFn := Hid.mk' H9.out.1
      clear HR2 H9
      subst hr0
      go_wp2
      go_ret
      exact ⟨rfl, HFn.out⟩
end Go.Proofs.Ytbnbbelkddbndaa
