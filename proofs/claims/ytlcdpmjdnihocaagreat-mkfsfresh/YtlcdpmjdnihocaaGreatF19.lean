/- Several texts joined, each with its own remark; no condition. -/
import Derived.Test.YtlcdpmjdnihocaaGreatF16
import Derived.Test.YtlcdpmjdnihocaaGreatF17
import Derived.Laws.IdiomStrings
import Derived.Deep.Cut
import Derived.Test.YtlcdpmjdnihocaaGreatF18
/- An entry read from its sixteen bytes, where the entry may be. -/
namespace Go.Proofs.YtlcdpmjdnihocaaGreat
open Go.RowKit Go.Maps
def pre (s : ByteArray) (k : Nat) : ByteArray := ⟨(s.data.toList.take k).toArray⟩
theorem pre_size (s : ByteArray) (k : Nat) (h : k ≤ s.size) : (pre s k).size = k := by
  have : s.data.toList.length = s.size := by cases s; rfl
  show (s.data.toList.take k).toArray.size = k
  simp [List.length_take]
  have : s.data.size = s.size := by cases s; rfl
  omega
theorem pre_all (s : ByteArray) : pre s s.size = s := by
  have : s.data.toList.length = s.size := by cases s; rfl
  unfold pre
  rw [← this, List.take_length]
theorem pre_step (s : ByteArray) (k : Nat) (h : k < s.size) : pre s k ++ ⟨[s[k]].toArray⟩ = pre s (k + 1) := by
  have h2 : k < s.data.toList.length := by cases s; exact h
  apply ByteArray.ext
  rw [ByteArray.data_append]
  unfold pre
  rw [List.take_add_one, List.getElem?_eq_getElem h2]
  simp
  rfl
theorem zero132 : ∀ w, (zeroValue 69).run Tryz.prog w = .ok (.agg #[.int .u16 0, .string ⟨#[]⟩]) w := (zero_of_info (show (Tryz.prog.info? 69).map (fun i => (i.zero, i.size)) = some (some (.agg #[.int .u16 0, .string ⟨#[]⟩]), 2) by kernel_rfl)).1
theorem size132 : (Tryz.prog.info? 69).map (·.size) = some 2 := by kernel_rfl
theorem ent_info (i : Int) (s : ByteArray) : (Tryz.prog.info? 69).map (·.size) = some (#[Value.int .u16 i, .string s] : Array Value).size := size132
theorem ent_two (i i' : Int) (s s' : ByteArray) : (#[Value.int .u16 i, .string s] : Array Value).size = (#[Value.int .u16 i', .string s'] : Array Value).size := rfl
theorem ent_one (i : Int) (s : ByteArray) : (#[Value.int .u16 i, .string s] : Array Value).all (·.oneCell') = true := by simp [Value.oneCell']
structure De3 (w W : World) (f : Nat → Int) (i : Int) (s : ByteArray) : Prop where
  row : W.heap[w.heap.size]? = some (.cells (rowN .u8 f 16) 120)
  res : W.heap[w.heap.size + 1]? = some (.cells #[.int .u16 0, .string ⟨#[]⟩] 69)
  ent : W.heap[w.heap.size + 1 + 1]? = some (.cells #[.int .u16 i, .string s] 69)
  bel : Below w.heap.size w W
theorem De3.start (w : World) (f : Nat → Int) (i : Int) : De3 w (((w.alloc (.cells (rowN .u8 f 16) 120)).alloc (.cells #[.int .u16 0, .string ⟨#[]⟩] 69)).alloc (.cells #[.int .u16 i, .string ⟨#[]⟩] 69)) f i ⟨#[]⟩ := by
  refine ⟨heap_kept (heap_kept (heap_alloc_new _ _) (below_new _ _)) (below_new _ _), heap_kept (heap_two _ _ _) (below_new _ _), ?_, bel_alA (bel_alA (below_new _ _) _) _⟩
  have := heap_alloc_new ((w.alloc (.cells (rowN .u8 f 16) 120)).alloc (.cells #[.int .u16 0, .string ⟨#[]⟩] 69)) (.cells #[.int .u16 i, .string ⟨#[]⟩] 69)
  simpa using this
theorem De3.call {w W W' : World} {f : Nat → Int} {i : Int} {s : ByteArray} (h : De3 w W f i s) (hb : Below W.heap.size W W') : De3 w W' f i s := ⟨heap_kept h.row hb, heap_kept h.res hb, heap_kept h.ent hb, below_next h.bel hb⟩
theorem De3.set {w W : World} {f : Nat → Int} {i : Int} {s : ByteArray} (h : De3 w W f i s) (s' : ByteArray) : De3 w (W.setCell ⟨w.heap.size + 1 + 1, 1, none⟩ (.string s')) f i s' := by
  have hF := Fr.setCell W (w.heap.size + 1 + 1) 1 (.string s')
  refine ⟨(hF.block _ (Array.getElem?_eq_some_iff.1 h.row).1 (by omega)).trans h.row, (hF.block _ (Array.getElem?_eq_some_iff.1 h.res).1 (by omega)).trans h.res, ?_, h.bel.trans (hF.below (fun j q => by omega) h.bel.size)⟩
  rw [heap_setCell_same _ _ _ _ _ _ h.ent]
  rfl
section
variable {o : Oper} {a : Act} {W W' : World}
theorem exec_conv {src dst : TypeId} {x : Operand} {v r : Value} (ho : o.op = .convert src dst x) (hx : a.eval x = v) (hr : (convert src dst v).run Tryz.prog W = .ok r W) : (execOp a.eval o).run Tryz.prog W = .ok (.value r) W := by
  generalize a.eval = E at *
  unfold execOp
  simp only [ho, hx, Sem.run_bind, hr, Result.andThen_ok, Sem.run_pure]
theorem exec_sadd {x y : Operand} {p q : ByteArray} (ho : o.op = .binOp .add 9 x y 9) (hx : a.eval x = .string p) (hy : a.eval y = .string q) (hl : p.size + q.size ≤ 1000000) : (execOp a.eval o).run Tryz.prog W = .ok (.value (.string (p ++ q))) W := by
  have hm : ¬ (((p.size + q.size : Nat) : Int) > IntKind.i64.max) := by
    have : IntKind.i64.max = 9223372036854775807 := by decide
    omega
  generalize a.eval = E at *
  unfold execOp
  simp only [ho, hx, hy, binOp_string_add, Op.stringOp, if_neg hm]
  simp [eqGuard]
theorem wpOrd_do {ops : Array Oper} {Q : Exit → Act → World → Prop} {S : World → Prop} {r : List (Bool × Oper)} (hw : Region.wanted o (yielded ops a.tmps) = true) (hr : (execOp a.eval o).run Tryz.prog W = .ok .skip W') (hS : S W') (h : wpOrd Tryz.prog ops Q S r (a.put o.dst undef) W') : wpOrd Tryz.prog ops Q S ((false, o) :: r) a W := by
  simp only [wpOrd, hw, if_true]
  unfold Oper.wp
  rw [hr]
  exact ⟨hS, h⟩
theorem exec_st9 {x y : Operand} {g i : Nat} {p : ByteArray} {old : Value} (ho : o.op = .store 9 x y) (hx : a.eval x = .pointer (some ⟨g, i, none⟩)) (hy : a.eval y = .string p) (hc : W.cell? ⟨g, i, none⟩ = some old) (hf : W.frozen? ⟨g, i, none⟩ = false) : (execOp a.eval o).run Tryz.prog W = .ok .skip (W.setCell ⟨g, i, none⟩ (.string p)) := by
  generalize a.eval = E at *
  unfold execOp
  simp only [ho, hx, hy]
  simp [go_sem, hc, hf]
end
set_option maxRecDepth 20000 in
set_option maxHeartbeats 2000000 in
theorem dec18_name (w : World) (f : Nat → Int) (i : Int) (hi : 0 < i ∧ i < 65536) (s : ByteArray) (hs : NmOk s) (hf : ∀ j, j < 16 → f j = encPA i s j) :
    Calls Tryz.prog 135 #[.agg (rowN .u8 f 16)] w fun e w' => e = .returned (.tuple #[.agg #[.int .u16 i, .string s], .int .i64 0]) ∧ Below w.heap.size w w' := by
  have z := zero132
  have z2 := zero204A
  have f0 : f 0 = i % 256 := by rw [hf 0 (by omega)]; rfl
  have f1 : f 1 = i / 256 := by rw [hf 1 (by omega)]; rfl
  have HD : Hid _ := De3.start w f i
  have hr1 := heap_kept (heap_alloc_new w (.cells (rowN .u8 f 16) 120)) (below_new (w.alloc (.cells (rowN .u8 f 16) 120)) (.cells #[.int .u16 0, .string ⟨#[]⟩] 69))
  have r0 := cell_rowN (i := 0) hr1 (by omega)
  have r1 := cell_rowN (i := 1) hr1 (by omega)
  rw [f0] at r0
  rw [f1] at r1
  clear hr1
  have w0 : IntKind.u16.wrap (i % 256) = i % 256 := by rw [wrap_u16A]; omega
  have w1 : IntKind.u16.wrap (i / 256) = i / 256 := by rw [wrap_u16A]; omega
  have w2 : IntKind.u16.wrap (256 * (i / 256)) = 256 * (i / 256) := by rw [wrap_u16A]; omega
  have w3 : IntKind.u16.wrap (i % 256 + 256 * (i / 256)) = i := by rw [wrap_u16A]; omega
  have HF : Hid _ := hf
  clear hf f0 f1
  go_enter Tryz.func135, Tryz.ntmps135
  go_wp2
  generalize ((w.alloc (.cells (rowN .u8 f 16) 120)).alloc (.cells #[.int .u16 0, .string ⟨#[]⟩] 69)).alloc (.cells #[.int .u16 i, .string ⟨#[]⟩] 69) = V at *
  clear r0 r1 w0 w1 w2 w3
  have hlen := hs.len
  have HP : Hid (∀ k (h : k < s.size), f (2 + k) = (s[k].toNat : Nat)) := fun k h => by
    rw [HF.out (2 + k) (by omega)]
    unfold encPA
    rw [if_neg (by omega), if_neg (by omega), dif_pos (by omega)]
    simp
  have HQ : Hid (∀ k, k = s.size → k < 14 → f (2 + k) = 0) := fun k h hk => by
    rw [HF.out (2 + k) (by omega)]
    unfold encPA
    rw [if_neg (by omega), if_neg (by omega), dif_neg (by omega)]
  have HN : Hid _ := hs
  clear hs
  go_loopw [5] (fun s5 wx => ∃ k : Nat, k ≤ s.size ∧ s5 = .int .i64 ((2 + k : Nat) : Int) ∧ Hid (De3 w wx f i (pre s k))) (fun s5 _ => 2 + s.size - (intOf s5).toNat)
  case atStart => exact ⟨0, by omega, rfl, HD.out⟩
  case round =>
    obtain ⟨k, hk, rfl, HT⟩ := hrel
    by_cases hk2 : k < s.size
    · have hb := HN.out.byt k hk2
      have rk := cell_rowN (i := 2 + k) HT.out.row (by omega)
      rw [HP.out k hk2] at rk
      have HPk : Hid _ := HP.out k hk2
      have hstep := pre_step s k hk2
      have hpsz := pre_size s k hk
      have hcv : ∀ u : World, u.cell? ⟨w.heap.size, 2 + k, none⟩ = some (.int .u8 ((s[k].toNat : Nat) : Int)) → ∀ c, (convert 157 9 (.slice (some ⟨w.heap.size, 2 + k, none⟩) 1 c)).run Tryz.prog u = .ok (.string ⟨[s[k]].toArray⟩) u := fun u hu c => by
        refine run_convert_bytes_back (P := Tryz.prog) u 157 9 5 ⟨w.heap.size, 2 + k, none⟩ c [s[k]] Tryz.underlying157 Tryz.underlying5 Tryz.underlying9 fun j hj => ?_
        obtain rfl : j = 0 := by simp at hj; omega
        rw [Go.WideShapes.add_plain, Nat.add_zero]
        exact hu
      have hent := HT.out.ent
      have HT2 : Hid _ := HT.out.set (pre s (k + 1))
      have g0 : (((s[k].toNat : Nat) : Int) == 0) = false := beq_eq_false_iff_ne.2 hb.1
      have g1 : (((s[k].toNat : Nat) : Int) != 0) = true := by rw [bne, g0]; rfl
      have hm16 : 2 + k < 16 := by omega
      have hmi : ((2 + k : Nat) : Int) < 16 := by omega
      generalize ((s[k].toNat : Nat) : Int) = q at *
      have hb1 : (⟨[s[k]].toArray⟩ : ByteArray).size = 1 := rfl
      generalize (⟨[s[k]].toArray⟩ : ByteArray) = b1 at *
      go_upto_region 5 with fail
      have c1 : wr.cell? ⟨w.heap.size + 1 + 1, 1, none⟩ = some (.string (pre s k)) := Joins.cell_of_block hent 1
      refine wp_region_ord (S := fun u => u.cell? ⟨w.heap.size, 2 + k, none⟩ = some (.int .u8 q)) [(0, true), (2, true), (3, true), (4, true), (5, true), (6, true), (1, false), (7, true), (8, true), (9, false)] (by kernel_rfl) rfl (by kernel_rfl) (fun d _ _ _ _ h => by cases d <;> exact h) rk ?_
      simp only [inOrd, List.getElem?_cons_zero, List.getElem?_cons_succ]
      refine wpOrd_yield (v := .pointer (some ⟨w.heap.size + 1 + 1, 1, none⟩)) rfl (fun u _ => by go_simp) ?_
      simp only [Act.put, List.setIfInBounds_toArray, List.set_cons_succ, List.set_cons_zero]
      refine wpOrd_yield (v := .int .i64 (2 + (k : Int))) rfl (fun u _ => exec_mv rfl rfl) ?_
      simp only [Act.put, List.setIfInBounds_toArray, List.set_cons_succ, List.set_cons_zero]
      refine wpOrd_yield (v := .int .i64 (2 + (k : Int))) rfl (fun u _ => exec_mv rfl rfl) ?_
      simp only [Act.put, List.setIfInBounds_toArray, List.set_cons_succ, List.set_cons_zero]
      refine wpOrd_yield (v := .int .i64 (2 + (k : Int) + 1)) rfl (fun u _ => by have e : IntKind.i64.wrap (2 + (k : Int) + 1) = 2 + (k : Int) + 1 := (by rw [IntKind.wrap_i64]; omega); go_simp) ?_
      simp only [Act.put, List.setIfInBounds_toArray, List.set_cons_succ, List.set_cons_zero]
      refine wpOrd_yield (v := .slice (some ⟨w.heap.size, 2 + k, none⟩) 1 (16 - (2 + k))) rfl (fun u _ => by
        have t1 : (2 + (k : Int)).toNat = 2 + k := by omega
        have t2 : (2 + (k : Int) + 1).toNat = 2 + k + 1 := by omega
        have t3 : 2 + k + 1 - (2 + k) = 1 := by omega
        have t4 : 0 ≤ 2 + (k : Int) + 1 ∧ 2 + (k : Int) + 1 ≤ 16 := by omega
        have t5 : 0 ≤ 2 + (k : Int) ∧ 2 + (k : Int) ≤ 2 + (k : Int) + 1 := by omega
        go_simp
        omega) ?_
      simp only [Act.put, List.setIfInBounds_toArray, List.set_cons_succ, List.set_cons_zero]
      refine wpOrd_yield (v := .string b1) rfl (fun u hu => exec_conv rfl rfl (hcv u hu (16 - (2 + k)))) ?_
      simp only [Act.put, List.setIfInBounds_toArray, List.set_cons_succ, List.set_cons_zero]
      have c1d : wr.drew.cell? ⟨w.heap.size + 1 + 1, 1, none⟩ = some (.string (pre s k)) := c1
      have rkd : wr.drew.cell? ⟨w.heap.size, 2 + k, none⟩ = some (.int .u8 q) := rk
      refine wpOrd_act (v := .string (pre s k)) (W' := wr.drew) rfl (by go_simp) rkd ?_
      simp only [Act.put, List.setIfInBounds_toArray, List.set_cons_succ, List.set_cons_zero]
      refine wpOrd_yield (v := .string (pre s k ++ b1)) rfl (fun u _ => exec_sadd rfl rfl rfl (by omega)) ?_
      simp only [Act.put, List.setIfInBounds_toArray, List.set_cons_succ, List.set_cons_zero]
      refine wpOrd_yield (v := .pointer (some ⟨w.heap.size + 1 + 1, 1, none⟩)) rfl (fun u _ => by go_simp) ?_
      simp only [Act.put, List.setIfInBounds_toArray, List.set_cons_succ, List.set_cons_zero]
      rw [hstep]
      have HTd : Hid (De3 w (wr.drew.setCell ⟨w.heap.size + 1 + 1, 1, none⟩ (.string (pre s (k + 1)))) f i (pre s (k + 1))) := De3.set (W := wr.drew) ⟨HT.out.row, HT.out.res, HT.out.ent, HT.out.bel.drew⟩ _
      refine wpOrd_do (W' := wr.drew.setCell ⟨w.heap.size + 1 + 1, 1, none⟩ (.string (pre s (k + 1)))) rfl (exec_st9 rfl rfl rfl c1d (frozen_row hent 1)) ?_ ?_
      · have hrw := HTd.out.row
        have := cell_rowN (i := 2 + k) hrw (by omega)
        rw [this, HPk.out]
      refine wpOrd_nil ?_
      clear HT HT2 hent c1 c1d rk rkd hcv hstep HPk
      generalize wr.drew.setCell ⟨w.heap.size + 1 + 1, 1, none⟩ (.string (pre s (k + 1))) = X at *
      simp only [Act.put]
      go_wp2
      exact ⟨⟨k + 1, by omega, by go_num, HTd.out⟩, by simp [intOf]; omega⟩
    · obtain rfl : k = s.size := by omega
      have hT := HT.out
      rw [pre_all s] at hT
      clear HT
      have hent := hT.ent
      have c0 : wr.cell? ⟨w.heap.size + 1 + 1, 0, none⟩ = some (.int .u16 i) := Joins.cell_of_block hent 0
      have c1 : wr.cell? ⟨w.heap.size + 1 + 1, 1, none⟩ = some (.string s) := Joins.cell_of_block hent 1
      have HT : Hid _ := hT
      have henc := enc18_name wr i hi s HN.out
      have hcut : ∀ R : Prop, (((2 + s.size : Nat) : Int) < 16 → wr.cell? ⟨w.heap.size, 2 + s.size, none⟩ = some (.int .u8 0) → R) → (¬ ((2 + s.size : Nat) : Int) < 16 → R) → R := fun R h1 h2 => by
        by_cases hq : ((2 + s.size : Nat) : Int) < 16
        · refine h1 hq ?_
          have := cell_rowN (i := 2 + s.size) hT.row (by omega)
          rw [HQ.out s.size rfl (by omega)] at this
          exact this
        · exact h2 hq
      have HSame : Hid (sameN 16 (encPA i s) f = true) := (sameN_iff 16 _ _).2 fun j hj => (HF.out j hj).symm
      clear hT hent HP HQ HN
      have HF2 : Hid _ := HF.out
      clear HF
      refine hcut _ (fun hq rk0 => ?_) (fun hq => ?_)
      all_goals
        clear hcut
        go_wp2_with (first | (go_at_call 69; fail))
        refine henc.mono ?_
        rintro e W ⟨rfl, hb⟩
        have HT2 : Hid (De3 w (W.alloc (.cells (rowN .u8 (encPA i s) 16) 120)) f i s) := (HT.out.call hb).call (below_new _ _)
        have hE : (W.alloc (.cells (rowN .u8 (encPA i s) 16) 120)).heap[W.heap.size]? = some (.cells (rowN .u8 (encPA i s) 16) 120) := heap_alloc_new _ _
        have hR := HT2.out.row
        have d0 : (W.alloc (.cells (rowN .u8 (encPA i s) 16) 120)).cell? ⟨w.heap.size + 1 + 1, 0, none⟩ = some (.int .u16 i) := Joins.cell_of_block HT2.out.ent 0
        have d1 : (W.alloc (.cells (rowN .u8 (encPA i s) 16) 120)).cell? ⟨w.heap.size + 1 + 1, 1, none⟩ = some (.string s) := Joins.cell_of_block HT2.out.ent 1
        have hres := HT2.out.res
        have HB2 : Hid (Below w.heap.size w ((W.alloc (.cells (rowN .u8 (encPA i s) 16) 120)).setRow (w.heap.size + 1) #[.int .u16 i, .string s])) := below_setRowA HT2.out.bel (by omega) _
        have hsame := HSame.out
        clear hb henc c0 c1
        generalize encPA i s = F at *
        go_wp2_with (first | (with_reducible refine isStoreR 120 ?_; refine wpList_stNew 120 rfl (.tmp 6) (.tmp 39) rfl W.heap.size (rowN .u8 F 16) (rowN .u8 nought 16) 120 (by rw [rowN_size]; exact size204A) (by rw [rowN_size, rowN_size]) (rowN_one _ _ _) rfl rfl rfl ?_) | (with_reducible refine isLoadR 120 ?_; refine wpList_ldR 120 Tryz.underlying120 rfl rfl _ rfl W.heap.size rfl (rowN .u8 F 16) 120 (0, 0) (by rw [rowN_size]; exact size204A) hE ?_) | (with_reducible refine isLoadR 120 ?_; refine wpList_ldR 120 Tryz.underlying120 rfl rfl _ rfl w.heap.size rfl (rowN .u8 f 16) 120 (0, 0) (by rw [rowN_size]; exact size204A) hR ?_) | (with_reducible refine isEqR 120 120 ?_; refine wpList_neN Tryz.underlying120 (by kernel_rfl) rfl _ _ rfl F f true rfl rfl hsame ?_) | (with_reducible refine isStoreR 69 ?_; refine wpList_stR 69 rfl _ _ rfl (w.heap.size + 1) #[.int .u16 i, .string s] #[.int .u16 0, .string ⟨#[]⟩] 69 (ent_info i s) (ent_two 0 i ⟨#[]⟩ s) (ent_one i s) rfl rfl hres ?_))
        exact retCTA Tryz.underlying69 rfl rfl (w.heap.size + 1) #[.int .u16 i, .string s] 69 size132 rfl (setRow_heap _ _ _ _ _ _ hres) rfl ⟨rfl, HB2.out⟩
set_option maxRecDepth 20000 in
set_option maxHeartbeats 2000000 in
theorem dec18_free (w : World) (f : Nat → Int) (hf : ∀ j, j < 16 → f j = 0) :
    Calls Tryz.prog 135 #[.agg (rowN .u8 f 16)] w fun e w' => e = .returned (.tuple #[.agg #[.int .u16 0, .string ⟨#[]⟩], .int .i64 0]) ∧ Below w.heap.size w w' := by
  have z := zero132
  have z2 := zero204A
  have HD : Hid _ := De3.start w f 0
  have hr1 := heap_kept (heap_alloc_new w (.cells (rowN .u8 f 16) 120)) (below_new (w.alloc (.cells (rowN .u8 f 16) 120)) (.cells #[.int .u16 0, .string ⟨#[]⟩] 69))
  have r0 := cell_rowN (i := 0) hr1 (by omega)
  have r1 := cell_rowN (i := 1) hr1 (by omega)
  rw [hf 0 (by omega)] at r0
  rw [hf 1 (by omega)] at r1
  have HSame : Hid (sameN 16 nought f = true) := (sameN_iff 16 _ _).2 fun j hj => (hf j hj).symm
  have hf2 := hf 2 (by omega)
  clear hr1 hf
  go_enter Tryz.func135, Tryz.ntmps135
  go_wp2
  generalize ((w.alloc (.cells (rowN .u8 f 16) 120)).alloc (.cells #[.int .u16 0, .string ⟨#[]⟩] 69)).alloc (.cells #[.int .u16 0, .string ⟨#[]⟩] 69) = V at *
  clear r0 r1
  go_loopw [5] (fun s5 wx => s5 = .int .i64 2 ∧ wx = V) (fun _ _ => 0)
  case atStart => exact ⟨rfl, rfl⟩
  case round =>
    obtain ⟨rfl, rfl⟩ := hrel
    have hent := HD.out.ent
    have c0 : wr.cell? ⟨w.heap.size + 1 + 1, 0, none⟩ = some (.int .u16 0) := Joins.cell_of_block hent 0
    have c1 : wr.cell? ⟨w.heap.size + 1 + 1, 1, none⟩ = some (.string ⟨#[]⟩) := Joins.cell_of_block hent 1
    have r2 := cell_rowN (i := 2) HD.out.row (by omega)
    rw [hf2] at r2
    have henc := enc18_free wr
    clear hent
    go_wp2_with (first | (go_at_call 69; fail))
    refine henc.mono ?_
    rintro e W ⟨rfl, hb⟩
    have HT2 : Hid (De3 w (W.alloc (.cells (rowN .u8 nought 16) 120)) f 0 ⟨#[]⟩) := (HD.out.call hb).call (below_new _ _)
    have hE : (W.alloc (.cells (rowN .u8 nought 16) 120)).heap[W.heap.size]? = some (.cells (rowN .u8 nought 16) 120) := heap_alloc_new _ _
    have hR := HT2.out.row
    have d0 : (W.alloc (.cells (rowN .u8 nought 16) 120)).cell? ⟨w.heap.size + 1 + 1, 0, none⟩ = some (.int .u16 0) := Joins.cell_of_block HT2.out.ent 0
    have d1 : (W.alloc (.cells (rowN .u8 nought 16) 120)).cell? ⟨w.heap.size + 1 + 1, 1, none⟩ = some (.string ⟨#[]⟩) := Joins.cell_of_block HT2.out.ent 1
    have hres := HT2.out.res
    have HB2 : Hid (Below w.heap.size w ((W.alloc (.cells (rowN .u8 nought 16) 120)).setRow (w.heap.size + 1) #[.int .u16 0, .string ⟨#[]⟩])) := below_setRowA HT2.out.bel (by omega) _
    have hsame := HSame.out
    clear hb henc c0 c1 r2 HD
    go_wp2_with (first | (with_reducible refine isStoreR 120 ?_; refine wpList_stNew 120 rfl (.tmp 6) (.tmp 39) rfl W.heap.size (rowN .u8 nought 16) (rowN .u8 nought 16) 120 (by rw [rowN_size]; exact size204A) rfl (rowN_one _ _ _) rfl rfl rfl ?_) | (with_reducible refine isLoadR 120 ?_; refine wpList_ldR 120 Tryz.underlying120 rfl rfl _ rfl W.heap.size rfl (rowN .u8 nought 16) 120 (0, 0) (by rw [rowN_size]; exact size204A) hE ?_) | (with_reducible refine isLoadR 120 ?_; refine wpList_ldR 120 Tryz.underlying120 rfl rfl _ rfl w.heap.size rfl (rowN .u8 f 16) 120 (0, 0) (by rw [rowN_size]; exact size204A) hR ?_) | (with_reducible refine isEqR 120 120 ?_; refine wpList_neN Tryz.underlying120 (by kernel_rfl) rfl _ _ rfl nought f true rfl rfl hsame ?_) | (with_reducible refine isStoreR 69 ?_; refine wpList_stR 69 rfl _ _ rfl (w.heap.size + 1) #[.int .u16 0, .string ⟨#[]⟩] #[.int .u16 0, .string ⟨#[]⟩] 69 (ent_info 0 ⟨#[]⟩) rfl (ent_one 0 ⟨#[]⟩) rfl rfl hres ?_))
    exact retCTA Tryz.underlying69 rfl rfl (w.heap.size + 1) #[.int .u16 0, .string ⟨#[]⟩] 69 size132 rfl (setRow_heap _ _ _ _ _ _ hres) rfl ⟨rfl, HB2.out⟩
end Go.Proofs.YtlcdpmjdnihocaaGreat
/- The entries of a directory, where each may be. -/
namespace Go.Proofs.YtlcdpmjdnihocaaGreat
open Go.RowKit Go.Maps
def enE (x : Int × ByteArray) : List Value := [.int .u16 x.1, .string x.2]
theorem enE_len (x : Int × ByteArray) : (enE x).length = 2 := rfl
theorem enE_one (x : Int × ByteArray) : ∀ u ∈ enE x, u.oneCell' = true := fun u hu => by
  simp only [enE, List.mem_cons, List.not_mem_nil, or_false] at hu
  rcases hu with rfl | rfl <;> rfl
theorem info132 : (Tryz.prog.info? 69).map (fun i => (i.zero, i.size, i.bytes)) = some (some (.agg #[.int .u16 0, .string ⟨#[]⟩]), 2, 24) := by kernel_rfl
abbrev OwnE (w : World) (B : Nat) (v : Value) (l : List (Int × ByteArray)) : Prop := OwnG enE 69 2 w B v l
/-- Sixteen bytes say an entry. -/
def EntB (f : Nat → Int) (e : Int × ByteArray) : Prop := (e = (0, ⟨#[]⟩) ∧ ∀ j, j < 16 → f j = 0) ∨ ((0 < e.1 ∧ e.1 < 65536) ∧ NmOk e.2 ∧ ∀ j, j < 16 → f j = encPA e.1 e.2 j)
theorem dec18_ok (w : World) (f : Nat → Int) (e : Int × ByteArray) (h : EntB f e) :
    Calls Tryz.prog 135 #[.agg (rowN .u8 f 16)] w fun r w' => r = .returned (.tuple #[.agg #[.int .u16 e.1, .string e.2], .int .i64 0]) ∧ Below w.heap.size w w' := by
  rcases h with ⟨rfl, h⟩ | ⟨h1, h2, h3⟩
  · exact dec18_free w f h
  · exact dec18_name w f e.1 h1 e.2 h2 h3
/-- The bytes of the slot k. -/
def sloP (l : List Cel) (sp : List (Int × Int)) (k : Nat) : Nat → Int := fun j => atL l (mapP sp ((k * 16 / 1024 : Nat) : Int)) (k * 16 % 1024 + j)
structure SlSt (V W : World) (gb gy : Nat) (f e : Nat → Int) (v : Value) (l : List (Int × ByteArray)) : Prop where
  own : OwnE W V.heap.size v l
  blk : W.heap[gb]? = some (.cells (blk f) 79)
  row : W.heap[gy]? = some (.cells (rowN .u8 e 16) 120)
  b1 : V.heap.size ≤ gb
  b2 : gb < gy
  bel : Below V.heap.size V W
structure SlSA (V W : World) (v : Value) (l : List (Int × ByteArray)) : Prop where
  own : OwnE W V.heap.size v l
  bel : Below V.heap.size V W
theorem SlSA.call {V W W' : World} {v : Value} {l : List (Int × ByteArray)} (h : SlSA V W v l) (hb : Below W.heap.size W W') : SlSA V W' v l := ⟨h.own.later hb, below_next h.bel hb⟩
theorem SlSA.push {V W : World} {v : Value} {l : List (Int × ByteArray)} (h : SlSA V W v l) (hn : l.length ≤ 10000000) (x : Int × ByteArray) (ty : TypeId) :
    ∃ v' w', (Builtin.append_ #[64, 64] ty #[v, .slice (some ⟨W.heap.size, 0, none⟩) 1 1]).run Tryz.prog (W.alloc (.cells #[.int .u16 x.1, .string x.2] 69)) = .ok v' w' ∧ Hid (SlSA V w' v' (l ++ [x])) := by
  obtain ⟨i0, hi0, hz0, hz1, hz2⟩ := info_parts info132
  obtain ⟨v', w', h1, h2, h3, h4⟩ := own_pushF enE_len enE_one Tryz.underlying64 hi0 hz0 hz1 hz2 rfl (by omega) (by omega) h.own h.bel.size hn x ty
  exact ⟨v', w', h1, h2, h.bel.trans h3⟩
theorem SlSt.set {V W : World} {gb gy : Nat} {f e : Nat → Int} {v : Value} {l : List (Int × ByteArray)} (h : SlSt V W gb gy f e v l) (j : Nat) (x : Int) : SlSt V (W.setCell ⟨gy, j, none⟩ (.int .u8 x)) gb gy f (updN e j x) v l := by
  have hF := Fr.setCell W gy j (.int .u8 x)
  exact ⟨own_frame h.own hF fun b hb hT => own_ne h.own h.row (by decide) (hT ▸ hb), (hF.block _ (Array.getElem?_eq_some_iff.1 h.blk).1 (by have := h.b2; omega)).trans h.blk, setCell_rowN h.row j x, h.b1, h.b2, h.bel.trans (hF.below (fun j q => by have := h.b1; have := h.b2; omega) h.bel.size)⟩
set_option maxRecDepth 20000 in
set_option maxHeartbeats 4000000 in
theorem slots29_ok {w : World} {g : Nat} {n : Int} {l : List Cel} {y : Lay} (ha : Aud w g n l y) (x : Fl) (h : FlOk w x) (es : List (Int × ByteArray)) (hm : x.s / 16 = es.length) (hes : es.length ≤ 100000) (hok : ∀ k e, es[k]? = some e → EntB (sloP l x.sp k) e) :
    Calls Tryz.prog 89 #[.pointer (some ⟨g, 0, none⟩), .agg (flCells x).toArray] w fun r w' => ∃ v, r = .returned (.tuple #[v, .bool true]) ∧ SlSA w w' v es := by
  have z := zero77
  have z1 := zero204A
  have z2 := zero132
  have hx := heap_alloc_new w (.cells (flCells x).toArray 114)
  have HX : Hid _ := hx
  have HB : Hid _ := below_new w (.cells (flCells x).toArray 114)
  have HA : Hid (Aud (w.alloc (.cells (flCells x).toArray 114)) g n l y) := ha.later (below_new _ _)
  have HL : Hid (LieG pc2 2 (w.alloc (.cells (flCells x).toArray 114)) x.p x.sp) := h.lie.keep _
  obtain ⟨_, hl, hs, _⟩ := h
  have e1 : IntKind.i64.wrap x.s = x.s := by rw [IntKind.wrap_i64]; omega
  have e2 : x.s.tdiv 16 = (es.length : Int) := by rw [Int.tdiv_eq_ediv_of_nonneg (by omega)]; exact hm
  have e3 : IntKind.i64.wrap (es.length : Int) = (es.length : Int) := by rw [IntKind.wrap_i64]; omega
  have HO : Hid _ := hok
  have HC : Hid (∀ W, Below (w.alloc (.cells (flCells x).toArray 114)).heap.size (w.alloc (.cells (flCells x).toArray 114)) W → W.cell? ⟨w.heap.size, 3, none⟩ = some (.int .u32 x.s) ∧ W.cell? ⟨w.heap.size, 17, none⟩ = some (.slice x.p x.sp.length x.c)) := fun W hW => by
    obtain ⟨_, c3, _, c17⟩ := fl_cell (heap_kept HX.out hW)
    exact ⟨c3, c17⟩
  clear hx hok ha hm
  go_enter Tryz.func89, Tryz.ntmps89
  go_wp2
  generalize w.alloc (.cells (flCells x).toArray 114) = V at *
  go_loopw [6, 7, 8, 9, 10, 11, 12, 13] (fun s6 s7 s8 _ _ _ _ _ wx => ∃ k : Nat, k ≤ es.length ∧ s7 = .bool true ∧ s8 = .int .i64 k ∧ Hid (SlSA V wx s6 (es.take k))) (fun _ _ s8 _ _ _ _ _ _ => es.length - (intOf s8).toNat)
  case atStart => exact ⟨0, by omega, rfl, rfl, OwnG.nil _ _, Below.refl _ _⟩
  case round =>
    obtain ⟨k, hk, rfl, rfl, HT⟩ := hrel
    obtain ⟨c3, c17⟩ := HC.out wr HT.out.bel
    by_cases hk2 : (k : Int) < (es.length : Int)
    · have hmp := mapped29_any x.c (HL.out.later HT.out.bel) hl ((k * 16 / 1024 : Nat) : Int)
      have hat := at29_any (HA.out.later HT.out.bel) (mapP x.sp ((k * 16 / 1024 : Nat) : Int))
      have hek : es[k]? = some es[k] := List.getElem?_eq_getElem (by omega)
      have HEn : Hid _ := HO.out k es[k] hek
      have HTk : Hid (es.take (k + 1) = es.take k ++ [es[k]]) := take_snoc hek
      have t1 : IntKind.i64.wrap ((k : Int) * 16) = (k : Int) * 16 := by rw [IntKind.wrap_i64]; omega
      have t2 : ((k : Int) * 16).tdiv 1024 = ((k * 16 / 1024 : Nat) : Int) := by rw [Int.tdiv_eq_ediv_of_nonneg (by omega)]; omega
      have t3 : IntKind.i64.wrap ((k * 16 / 1024 : Nat) : Int) = ((k * 16 / 1024 : Nat) : Int) := by rw [IntKind.wrap_i64]; omega
      have t4 : ((k : Int) * 16).tmod 1024 = ((k * 16 % 1024 : Nat) : Int) := by rw [Int.tmod_eq_emod_of_nonneg (by omega)]; omega
      have t5 : IntKind.i64.wrap ((k * 16 % 1024 : Nat) : Int) = ((k * 16 % 1024 : Nat) : Int) := by rw [IntKind.wrap_i64]; omega
      have hrm : k * 16 % 1024 + 16 ≤ 1024 := by omega
      have HSl : Hid (∀ j, atL l (mapP x.sp ((k * 16 / 1024 : Nat) : Int)) (k * 16 % 1024 + j) = sloP l x.sp k j) := fun j => rfl
      have hlt : (es.take k).length ≤ 100000 := by rw [List.length_take]; omega
      generalize sloP l x.sp k = fs at *
      generalize mapP x.sp ((k * 16 / 1024 : Nat) : Int) = at' at *
      generalize es[k] = en at *
      generalize k * 16 / 1024 = kq at *
      generalize k * 16 % 1024 = kr at *
      clear hek
      go_wp2_with (first | (go_at_call 134; fail))
      refine hmp.mono ?_
      rintro e W0 ⟨rfl, rfl⟩
      clear hmp
      go_wp2_with (first | (go_at_call 90; fail))
      refine hat.mono ?_
      rintro e W1 ⟨rfl, hb1⟩
      generalize atL l at' = fb at *
      have hs1 := hb1.size
      have hT1 := HT.out.call hb1
      have HSt : Hid (SlSt V ((W1.alloc (.cells (blk fb) 79)).alloc (.cells (rowN .u8 nought 16) 120)) W1.heap.size (W1.heap.size + 1) fb nought u6 (es.take k)) := by
        have h2 := (hT1.call (below_new _ (.cells (blk fb) 79))).call (below_new _ (.cells (rowN .u8 nought 16) 120))
        exact ⟨h2.own, heap_kept (heap_alloc_new _ _) (below_new _ _), heap_two _ _ _, hT1.bel.size, by omega, h2.bel⟩
      clear hat hb1 hs1 hT1 HT c3 c17
      go_wp2_with (first | (with_reducible refine isStoreR 79 ?_; refine wpList_stBn rfl (.tmp 9) (.tmp 30) rfl W1.heap.size fb nought 79 rfl rfl rfl ?_))
      generalize (W1.alloc (.cells (blk fb) 79)).alloc (.cells (rowN .u8 nought 16) 120) = X at *
      generalize W1.heap.size = gb at *
      go_loopw [11] (fun s11 wx => ∃ (j : Nat) (e : Nat → Int), j ≤ 16 ∧ s11 = .int .i64 j ∧ Hid (∀ i, i < j → e i = fs i) ∧ Hid (SlSt V wx gb (gb + 1) fb e u6 (es.take k))) (fun s11 _ => 16 - (intOf s11).toNat)
      case atStart => exact ⟨0, nought, by omega, rfl, fun i hi => absurd hi (by omega), HSt.out⟩
      case round =>
        obtain ⟨j, e, hj, rfl, HE, HJ⟩ := hrel
        by_cases hj2 : (j : Int) < 16
        · have cb := cell_rowN (i := kr + j) (m := 1024) HJ.out.blk (by omega)
          have cy := cell_rowN (i := j) HJ.out.row (by omega)
          have fy := frozen_row HJ.out.row j
          have HJ2 : Hid _ := HJ.out.set j (fb (kr + j))
          have HE2 : Hid (∀ i, i < j + 1 → updN e j (fb (kr + j)) i = fs i) := fun i hi => by
            unfold updN
            split
            · rename_i q; rw [q]; exact HSl.out j
            · exact HE.out i (by omega)
          have e6 : IntKind.i64.wrap ((kr : Int) + (j : Int)) = ((kr + j : Nat) : Int) := by rw [IntKind.wrap_i64]; omega
          have e7 : (kr : Int) + (j : Int) = ((kr + j : Nat) : Int) := by omega
          have hltm : kr + j < 1024 := by omega
          generalize fb (kr + j) = q at *
          generalize kr + j = m at *
          clear HJ HE
          go_wp2
          exact ⟨⟨j + 1, _, by omega, by go_num, HE2.out, HJ2.out⟩, by simp [intOf]; omega⟩
        · obtain rfl : j = 16 := by omega
          have hrow := HJ.out.row
          rw [show rowN .u8 e 16 = rowN .u8 fs 16 from rowN_congr HE.out] at hrow
          have hdec := dec18_ok wr fs en HEn.out
          have HS1 : Hid (SlSA V wr u6 (es.take k)) := ⟨HJ.out.own, HJ.out.bel⟩
          clear HJ HE
          go_wp2_with (first | (with_reducible refine isLoadR 120 ?_; refine wpList_ldR 120 Tryz.underlying120 rfl rfl _ rfl (gb + 1) rfl (rowN .u8 fs 16) 120 (0, 0) (by rw [rowN_size]; exact size204A) hrow ?_) | (go_at_call 135; fail))
          refine hdec.mono ?_
          rintro r W2 ⟨rfl, hb2⟩
          have HS2 : Hid (SlSA V (W2.alloc (.cells #[.int .u16 en.1, .string en.2] 69)) u6 (es.take k)) := (HS1.out.call hb2).call (below_new _ _)
          obtain ⟨v', W3, R1, HS3⟩ := HS2.out.push (by omega) en 64
          clear hb2 hdec hrow HS1
          have he3 : (W2.alloc (.cells #[.int .u16 en.1, .string en.2] 69)).heap[W2.heap.size]? = some (.cells #[.int .u16 en.1, .string en.2] 69) := heap_alloc_new _ _
          have q0 : (W2.alloc (.cells #[.int .u16 en.1, .string en.2] 69)).cell? ⟨W2.heap.size, 0, none⟩ = some (.int .u16 en.1) := Joins.cell_of_block he3 0
          have q1 : (W2.alloc (.cells #[.int .u16 en.1, .string en.2] 69)).cell? ⟨W2.heap.size, 1, none⟩ = some (.string en.2) := Joins.cell_of_block he3 1
          clear he3 HS2
          go_upto_region 14 with fail
          generalize W2.alloc (.cells #[.int .u16 en.1, .string en.2] 69) = X2 at *
          generalize W2.heap.size = g2 at *
          have HS4 : Hid (SlSA V W3 v' (es.take (k + 1))) := by rw [HTk.out]; exact HS3.out
          clear HS3 HTk
          go_wp2_with (first | (at_builtin; refine wpList_app rfl (.tmp 54) (.tmp 56) rfl rfl rfl R1 ?_))
          exact ⟨⟨k + 1, by omega, rfl, by go_num, HS4.out⟩, by simp [intOf]; omega⟩
    · obtain rfl : k = es.length := by omega
      have HR : Hid (SlSA w wr u6 es) := by
        have := HT.out
        rw [List.take_length] at this
        exact ⟨this.own.mono HB.out.size, below_next HB.out this.bel⟩
      clear HT HO HL HA
      generalize es.length = N at *
      go_wp2
      exact bodyPost_ret (results_tmp2 rfl _ _ _) rfl ⟨_, rfl, HR.out⟩
end Go.Proofs.YtlcdpmjdnihocaaGreat
/- Is there an inode of a number; its kind. -/
namespace Go.Proofs.YtlcdpmjdnihocaaGreat
open Go.RowKit Go.Maps
/-- The kind of an inode; 0: there is none. -/
def kindP : List Fl → Int → Int
  | [], _ => 0
  | x :: t, i => if (x.inum : Int) = i then x.k else kindP t i
def usedP : List Fl → Int → Bool
  | [], _ => false
  | x :: t, i => if (x.inum : Int) = i then true else usedP t i
theorem find_skip {i : Int} : ∀ {L : List Fl} {k : Nat}, (∀ j x, j < k → L[j]? = some x → ¬ (x.inum : Int) = i) → kindP L i = kindP (L.drop k) i ∧ usedP L i = usedP (L.drop k) i
  | [], k, _ => by simp
  | a :: t, 0, _ => ⟨rfl, rfl⟩
  | a :: t, k + 1, h => by
    have h0 := h 0 a (by omega) rfl
    rw [kindP, usedP, if_neg h0, if_neg h0, List.drop_succ_cons]
    exact find_skip fun j x hj hx => h (j + 1) x (by omega) (by simpa using hx)
theorem find_hit {L : List Fl} {i : Int} {k : Nat} {x : Fl} (h : ∀ j x, j < k → L[j]? = some x → ¬ (x.inum : Int) = i) (hk : L[k]? = some x) (hs : (x.inum : Int) = i) : kindP L i = x.k ∧ usedP L i = true := by
  have q := find_skip h
  have e : L.drop k = x :: L.drop (k + 1) := by
    obtain ⟨hlt, he⟩ := List.getElem?_eq_some_iff.1 hk
    rw [← he]; exact List.drop_eq_getElem_cons hlt
  rw [q.1, q.2, e, kindP, usedP, if_pos hs, if_pos hs]
  exact ⟨rfl, rfl⟩
theorem find_none {L : List Fl} {i : Int} (h : ∀ j x, j < L.length → L[j]? = some x → ¬ (x.inum : Int) = i) : kindP L i = 0 ∧ usedP L i = false := by
  have q := find_skip h
  rw [q.1, q.2, List.drop_length]
  exact ⟨rfl, rfl⟩
set_option maxRecDepth 20000 in
set_option maxHeartbeats 1000000 in
theorem used29_any {w : World} {p : Option Addr} {L : List Fl} (c : Nat) (h : FlsAt w p L) (i : Int) :
    Calls Tryz.prog 153 #[.slice p L.length c, .int .i64 i] w fun e w' => e = .returned (.bool (usedP L i)) ∧ w' = w := by
  have HL : Hid _ := h
  have hlen := h.len
  clear h
  go_enter Tryz.func153, Tryz.ntmps153
  go_wp2
  go_loopw [5] (fun s5 wx => wx = w ∧ ∃ k : Nat, k ≤ L.length ∧ s5 = .int .i64 k ∧ Hid (∀ j x, j < k → L[j]? = some x → ¬ (x.inum : Int) = i)) (fun s5 _ => L.length - (intOf s5).toNat)
  case atStart => exact ⟨rfl, 0, by omega, rfl, fun j x hj => absurd hj (by omega)⟩
  case round =>
    obtain ⟨rfl, k, hk, rfl, HN⟩ := hrel
    by_cases hk2 : (k : Int) < (L.length : Int)
    · obtain ⟨gf, x, rfl, hxk, _, hcx⟩ := HL.out.at (i := k) (by omega)
      have c0 : wr.cell? ⟨gf, k * 18, none⟩ = some (.int .i64 (x.inum : Int)) := hcx 0 _ rfl
      have HM : Hid ((x.inum : Int) = i → usedP L i = true) := fun q => (find_hit HN.out hxk q).2
      have HN2 : Hid (¬ (x.inum : Int) = i → ∀ j x, j < k + 1 → L[j]? = some x → ¬ (x.inum : Int) = i) := fun q j x' hj hs => by
        by_cases e : j = k
        · subst e; rw [hxk] at hs; injection hs with hs; rw [← hs]; exact q
        · exact HN.out j x' (by omega) hs
      have hkl : k < L.length := by omega
      generalize (x.inum : Int) = s at *
      clear hcx HN hxk HL
      generalize hN : L.length = N at *
      by_cases e : s = i
      · have HM2 : Hid _ := HM.out e
        have g1 : (s == i) = true := by simp [e]
        clear HM HN2
        go_wp2
        go_ret
        exact ⟨by rw [HM2.out]; rfl, rfl⟩
      · have HM2 : Hid _ := HN2.out e
        have g1 : (s == i) = false := by simp [e]
        clear HM HN2
        go_wp2
        exact ⟨⟨trivial, k + 1, by omega, by go_num, HM2.out⟩, by simp [intOf]; omega⟩
    · obtain rfl : k = L.length := by omega
      have HM : Hid _ := (find_none HN.out).2
      clear HN HL
      generalize L.length = N at *
      go_wp2
      go_ret
      exact ⟨by rw [HM.out]; rfl, rfl⟩
set_option maxRecDepth 20000 in
set_option maxHeartbeats 1000000 in
theorem kind29_any {w : World} {p : Option Addr} {L : List Fl} (c : Nat) (h : FlsAt w p L) (i : Int) :
    Calls Tryz.prog 130 #[.slice p L.length c, .int .i64 i] w fun e w' => e = .returned (.int .u16 (kindP L i)) ∧ w' = w := by
  have HL : Hid _ := h
  have hlen := h.len
  clear h
  go_enter Tryz.func130, Tryz.ntmps130
  go_wp2
  go_loopw [5] (fun s5 wx => wx = w ∧ ∃ k : Nat, k ≤ L.length ∧ s5 = .int .i64 k ∧ Hid (∀ j x, j < k → L[j]? = some x → ¬ (x.inum : Int) = i)) (fun s5 _ => L.length - (intOf s5).toNat)
  case atStart => exact ⟨rfl, 0, by omega, rfl, fun j x hj => absurd hj (by omega)⟩
  case round =>
    obtain ⟨rfl, k, hk, rfl, HN⟩ := hrel
    by_cases hk2 : (k : Int) < (L.length : Int)
    · obtain ⟨gf, x, rfl, hxk, _, hcx⟩ := HL.out.at (i := k) (by omega)
      have c0 : wr.cell? ⟨gf, k * 18, none⟩ = some (.int .i64 (x.inum : Int)) := hcx 0 _ rfl
      have c1 : wr.cell? ⟨gf, k * 18 + 1, none⟩ = some (.int .u16 x.k) := hcx 1 _ rfl
      have HM : Hid ((x.inum : Int) = i → kindP L i = x.k) := fun q => (find_hit HN.out hxk q).1
      have HN2 : Hid (¬ (x.inum : Int) = i → ∀ j x, j < k + 1 → L[j]? = some x → ¬ (x.inum : Int) = i) := fun q j x' hj hs => by
        by_cases e : j = k
        · subst e; rw [hxk] at hs; injection hs with hs; rw [← hs]; exact q
        · exact HN.out j x' (by omega) hs
      have hkl : k < L.length := by omega
      generalize (x.inum : Int) = s at *
      clear hcx HN hxk HL
      generalize hN : L.length = N at *
      by_cases e : s = i
      · have HM2 : Hid _ := HM.out e
        have g1 : (s == i) = true := by simp [e]
        clear HM HN2
        go_wp2
        go_ret
        exact ⟨by rw [HM2.out]; rfl, rfl⟩
      · have HM2 : Hid _ := HN2.out e
        have g1 : (s == i) = false := by simp [e]
        clear HM HN2
        go_wp2
        exact ⟨⟨trivial, k + 1, by omega, by go_num, HM2.out⟩, by simp [intOf]; omega⟩
    · obtain rfl : k = L.length := by omega
      have HM : Hid _ := (find_none HN.out).1
      clear HN HL
      generalize L.length = N at *
      go_wp2
      go_ret
      exact ⟨by rw [HM.out]; rfl, rfl⟩
end Go.Proofs.YtlcdpmjdnihocaaGreat
/- The directory that names an inode, and how many names it has. -/
namespace Go.Proofs.YtlcdpmjdnihocaaGreat
open Go.RowKit Go.Maps
/-- One name more: (directory, inode). -/
def parS (i : Int) (a : Int × Int) (s : Int × Int) : Int × Int := if s.2 = i then (s.1, a.2 + 1) else a
def parP (l : List (Int × Int)) (i : Int) : Int × Int := l.foldl (parS i) (0, 0)
theorem parP_snoc (l : List (Int × Int)) (s : Int × Int) (i : Int) : parP (l ++ [s]) i = parS i (parP l i) s := by
  unfold parP
  rw [List.foldl_append]
  rfl
theorem parS_le (i : Int) (a s : Int × Int) : a.2 ≤ (parS i a s).2 ∧ (parS i a s).2 ≤ a.2 + 1 := by
  unfold parS
  split
  · exact ⟨by show a.2 ≤ a.2 + 1; omega, Int.le_refl _⟩
  · omega
theorem parF_le (i : Int) : ∀ (l : List (Int × Int)) (a : Int × Int), a.2 ≤ (l.foldl (parS i) a).2 ∧ (l.foldl (parS i) a).2 ≤ a.2 + l.length
  | [], a => by simp
  | s :: t, a => by
    have h1 := parS_le i a s
    have h2 := parF_le i t (parS i a s)
    rw [List.foldl_cons, List.length_cons]
    omega
theorem parP_le (l : List (Int × Int)) (i : Int) : 0 ≤ (parP l i).2 ∧ (parP l i).2 ≤ l.length := by
  have := parF_le i l (0, 0)
  unfold parP
  simp only [Int.zero_add] at this
  exact this
set_option maxRecDepth 20000 in
set_option maxHeartbeats 1000000 in
theorem parent29_any {w : World} {p : Option Addr} {nm : List (Int × Int)} (c : Nat) (h : LieG pc2 2 w p nm) (hl : nm.length ≤ 1000000) (i : Int) :
    Calls Tryz.prog 129 #[.slice p nm.length c, .int .i64 i] w fun e w' => e = .returned (.tuple #[.int .i64 (parP nm i).1, .int .i64 (parP nm i).2]) ∧ w' = w := by
  have HL : Hid (LieG pc2 2 w p nm) := h
  clear h
  go_enter Tryz.func129, Tryz.ntmps129
  go_wp2
  go_loopw [6, 7, 8] (fun s6 s7 s8 wx => wx = w ∧ ∃ k : Nat, k ≤ nm.length ∧ s8 = .int .i64 k ∧ s6 = .int .i64 (parP (nm.take k) i).1 ∧ s7 = .int .i64 (parP (nm.take k) i).2) (fun _ _ s8 _ => nm.length - (intOf s8).toNat)
  case atStart => exact ⟨rfl, 0, by omega, rfl, rfl, rfl⟩
  case round =>
    obtain ⟨rfl, k, hk, rfl, rfl, rfl⟩ := hrel
    by_cases hk2 : (k : Int) < (nm.length : Int)
    · obtain ⟨gf, rfl, _, hc⟩ := HL.out (by omega)
      have hsk : nm[k]? = some nm[k] := List.getElem?_eq_getElem (by omega)
      have c0 : wr.cell? ⟨gf, k * 2, none⟩ = some (.int .i64 (nm[k]).1) := hc k _ hsk 0 _ rfl
      have c1 : wr.cell? ⟨gf, k * 2 + 1, none⟩ = some (.int .i64 (nm[k]).2) := hc k _ hsk 1 _ rfl
      have HS : Hid (parP (nm.take (k + 1)) i = parS i (parP (nm.take k) i) nm[k]) := by show _ = _; rw [take_snoc hsk, parP_snoc]
      have hle := parP_le (nm.take k) i
      rw [List.length_take] at hle
      have hkl : k < nm.length := by omega
      generalize nm[k] = s at *
      obtain ⟨a, ha⟩ : ∃ a, parP (nm.take k) i = a := ⟨_, rfl⟩
      rw [ha] at HS hle ⊢
      clear hc hsk ha HL
      generalize hN : nm.length = N at *
      have ew : IntKind.i64.wrap (a.2 + 1) = a.2 + 1 := by rw [IntKind.wrap_i64]; omega
      by_cases e : s.2 = i
      · have g1 : (s.2 == i) = true := by simp [e]
        have HP : Hid (parP (nm.take (k + 1)) i = (s.1, a.2 + 1)) := by show _ = _; rw [HS.out]; unfold parS; rw [if_pos e]
        clear HS e
        go_wp2
        exact ⟨⟨trivial, k + 1, by omega, by go_num, by rw [HP.out], by rw [HP.out]⟩, by simp [intOf]; omega⟩
      · have g1 : (s.2 == i) = false := by simp [e]
        have HP : Hid (parP (nm.take (k + 1)) i = a) := by show _ = _; rw [HS.out]; unfold parS; rw [if_neg e]
        clear HS e
        go_wp2
        exact ⟨⟨trivial, k + 1, by omega, by go_num, by rw [HP.out], by rw [HP.out]⟩, by simp [intOf]; omega⟩
    · obtain rfl : k = nm.length := by omega
      rw [List.take_length]
      clear HL
      generalize nm.length = N at *
      go_wp2
      exact bodyPost_ret (results_tmp2 rfl _ _ _) rfl ⟨rfl, rfl⟩
end Go.Proofs.YtlcdpmjdnihocaaGreat
/- The names of the directories that are no orphans. -/
namespace Go.Proofs.YtlcdpmjdnihocaaGreat
open Go.RowKit Go.Maps
abbrev OwnN (w : World) (B : Nat) (v : Value) (l : List (Int × Int)) : Prop := OwnG pc2 188 2 w B v l
theorem infoN : (Tryz.prog.info? 188).map (fun i => (i.zero, i.size, i.bytes)) = some (some (.agg #[.int .i64 0, .int .i64 0]), 2, 16) := by kernel_rfl
def nmOf (inum : Nat) (es : List (Int × ByteArray)) : List (Int × Int) := es.filterMap fun e => if e.1 = 0 then none else some ((inum : Int), e.1)
theorem nmOf_zero {inum : Nat} {es : List (Int × ByteArray)} {e : Int × ByteArray} (h : e.1 = 0) : nmOf inum (es ++ [e]) = nmOf inum es := by unfold nmOf; rw [List.filterMap_append]; simp [h]
theorem nmOf_some {inum : Nat} {es : List (Int × ByteArray)} {e : Int × ByteArray} (h : ¬ e.1 = 0) : nmOf inum (es ++ [e]) = nmOf inum es ++ [((inum : Int), e.1)] := by unfold nmOf; rw [List.filterMap_append]; simp [h]
theorem nmOf_len (inum : Nat) (es : List (Int × ByteArray)) : (nmOf inum es).length ≤ es.length := List.length_filterMap_le _ _
/-- The names that a file makes: none, if it is no directory or an orphan. -/
def nmX (ent : Fl → List (Int × ByteArray)) (x : Fl) : List (Int × Int) := if x.k = 2 ∧ ¬ x.lk = 0 then nmOf x.inum ((ent x).drop 2) else []
def namesP (ent : Fl → List (Int × ByteArray)) (L : List Fl) : List (Int × Int) := L.flatMap (nmX ent)
theorem namesP_snoc {ent : Fl → List (Int × ByteArray)} {L : List Fl} {i : Nat} {x : Fl} (h : L[i]? = some x) : namesP ent (L.take (i + 1)) = namesP ent (L.take i) ++ nmX ent x := by
  unfold namesP
  rw [take_snoc h, List.flatMap_append]
  simp
theorem namesP_le (ent : Fl → List (Int × ByteArray)) (L : List Fl) (i : Nat) : (namesP ent (L.take i)).length ≤ (namesP ent L).length := by
  have : namesP ent L = namesP ent (L.take i) ++ namesP ent (L.drop i) := by unfold namesP; rw [← List.flatMap_append, List.take_append_drop]
  rw [this, List.length_append]; omega
structure NmS (w W : World) (v : Value) (l : List (Int × Int)) : Prop where
  own : OwnN W w.heap.size v l
  bel : Below w.heap.size w W
theorem NmS.call {w W W' : World} {v : Value} {l : List (Int × Int)} (h : NmS w W v l) (hb : Below W.heap.size W W') : NmS w W' v l := ⟨h.own.later hb, below_next h.bel hb⟩
structure NmE (w W : World) (v : Value) (l : List (Int × Int)) (v2 : Value) (es : List (Int × ByteArray)) : Prop where
  st : NmS w W v l
  ent : ∃ B, OwnE W B v2 es
theorem NmE.push {w W : World} {v v2 : Value} {l : List (Int × Int)} {es : List (Int × ByteArray)} (h : NmE w W v l v2 es) (hn : l.length ≤ 10000000) (x y : Int) (ty : TypeId) :
    ∃ v' w', (Builtin.append_ #[138, 138] ty #[v, .slice (some ⟨W.heap.size, 0, none⟩) 1 1]).run Tryz.prog (W.alloc (.cells #[.int .i64 x, .int .i64 y] 188)) = .ok v' w' ∧ Hid (NmE w w' v' (l ++ [(x, y)]) v2 es) := by
  obtain ⟨i0, hi0, hz0, hz1, hz2⟩ := info_parts infoN
  obtain ⟨v', w', h1, h2, h3, h4⟩ := own_pushF pc2_len pc2_one Tryz.underlying138 hi0 hz0 hz1 hz2 rfl (by omega) (by omega) h.st.own h.st.bel.size hn (x, y) ty
  obtain ⟨B, he⟩ := h.ent
  exact ⟨v', w', h1, ⟨h2, h.st.bel.trans h3⟩, B, own_frame he h4 fun b hb hT => rows_apart (by decide) h.st.own hT he hb⟩
theorem NmE.cell {w W : World} {v : Value} {l : List (Int × Int)} {ge N ce : Nat} {es : List (Int × ByteArray)} (h : NmE w W v l (.slice (some ⟨ge, 0, none⟩) N ce) es) {k : Nat} {e : Int × ByteArray} (hk : es[k]? = some e) : W.cell? ⟨ge, k * 2, none⟩ = some (.int .u16 e.1) := by
  obtain ⟨B, ho⟩ := h.ent
  obtain ⟨pe', ce', he, hlie⟩ := OwnG.lie enE_len ho
  injection he with he1
  subst he1
  obtain ⟨g', hg, _, hce⟩ := hlie (by have := (List.getElem?_eq_some_iff.1 hk).1; omega)
  injection hg with hg
  injection hg with hg
  subst hg
  exact hce k _ hk 0 _ rfl
section
variable {o : Oper} {a : Act} {W : World}
theorem exec_slice192 {y : Operand} {p q : Int} (ho : o.op = .buildSlice 138 1 #[(0, y)]) (hy : a.eval y = .agg #[.int .i64 p, .int .i64 q]) : (execOp a.eval o).run Tryz.prog W = .ok (.value (.slice (some ⟨W.heap.size, 0, none⟩) 1 1)) (W.alloc (.cells #[.int .i64 p, .int .i64 q] 188)) := by
  have z := (zero_of_info (show (Tryz.prog.info? 188).map (fun i => (i.zero, i.size)) = some (some (.agg #[.int .i64 0, .int .i64 0]), 2) by kernel_rfl)).1
  generalize a.eval = E at *
  unfold execOp
  simp only [ho]
  simp [go_sem, hy, z]
end
theorem drop_snoc {α : Type} {l : List α} {k : Nat} {s : α} (h2 : 2 ≤ k) (h : l[k]? = some s) : (l.take (k + 1)).drop 2 = (l.take k).drop 2 ++ [s] := by
  have hlt := (List.getElem?_eq_some_iff.1 h).1
  rw [take_snoc h, List.drop_append_of_le_length (by rw [List.length_take]; omega)]
theorem EntB.bound {f : Nat → Int} {e : Int × ByteArray} (h : EntB f e) : 0 ≤ e.1 ∧ e.1 < 65536 := by
  rcases h with ⟨rfl, _⟩ | ⟨h, _⟩
  · exact ⟨Int.le_refl _, by decide⟩
  · omega
structure DirOk (l : List Cel) (ent : Fl → List (Int × ByteArray)) (x : Fl) : Prop where
  len : x.s / 16 = (ent x).length
  max : (ent x).length ≤ 100000
  all : ∀ k e, (ent x)[k]? = some e → EntB (sloP l x.sp k) e
set_option maxRecDepth 20000 in
set_option maxHeartbeats 4000000 in
theorem names29_ok {w : World} {g : Nat} {n : Int} {l : List Cel} {y : Lay} (ha : Aud w g n l y) {p : Option Addr} {L : List Fl} (c : Nat) (hL : FlsAt w p L) (hsb : ∀ x ∈ L, (0 ≤ x.s ∧ x.s ≤ 4294967295) ∧ (0 ≤ x.b ∧ x.b ≤ 4294967295)) (ent : Fl → List (Int × ByteArray)) (hent : ∀ x ∈ L, x.k = 2 → ¬ x.lk = 0 → DirOk l ent x) (htot : (namesP ent L).length ≤ 1000000) :
    Calls Tryz.prog 84 #[.pointer (some ⟨g, 0, none⟩), .slice p L.length c] w fun e w' => ∃ v, e = .returned v ∧ NmS w w' v (namesP ent L) := by
  have HA : Hid _ := ha
  have HL : Hid _ := hL
  have HS : Hid _ := hsb
  have HE : Hid _ := hent
  have HTot : Hid _ := htot
  have hlen := hL.len
  clear ha hL hsb hent htot
  have zN := (zero_of_info (show (Tryz.prog.info? 188).map (fun i => (i.zero, i.size)) = some (some (.agg #[.int .i64 0, .int .i64 0]), 2) by kernel_rfl)).1
  go_enter Tryz.func84, Tryz.ntmps84
  go_wp2
  go_loopw [5, 6, 7, 8, 9] (fun s5 s6 _ _ _ wx => ∃ i : Nat, i ≤ L.length ∧ s6 = .int .i64 i ∧ Hid (NmS w wx s5 (namesP ent (L.take i)))) (fun _ s6 _ _ _ _ => L.length - (intOf s6).toNat)
  case atStart => exact ⟨0, by omega, rfl, OwnG.nil _ _, Below.refl _ _⟩
  case round =>
    obtain ⟨i, hi, rfl, HT⟩ := hrel
    by_cases hi2 : (i : Int) < (L.length : Int)
    · have hLw := HL.out.later HT.out.bel
      obtain ⟨gf, x, rfl, hLi, hxL, hcx⟩ := hLw.at (i := i) (by omega)
      have c1 : wr.cell? ⟨gf, i * 18 + 1, none⟩ = some (.int .u16 x.k) := hcx 1 _ rfl
      have c2 : wr.cell? ⟨gf, i * 18 + 2, none⟩ = some (.int .u16 x.lk) := hcx 2 _ rfl
      have HP : Hid (namesP ent (L.take (i + 1)) = namesP ent (L.take i) ++ nmX ent x) := namesP_snoc hLi
      have hil : i < L.length := by omega
      have HGf : Hid (gf < w.heap.size) := by
        obtain ⟨g0, hg0, h, _⟩ := HL.out.lie (by omega)
        injection hg0 with hg0
        injection hg0 with hg0
        subst hg0
        exact h
      by_cases hd : x.k = 2 ∧ ¬ x.lk = 0
      · obtain ⟨hd1, hd2⟩ := hd
        have hok := HE.out x hxL hd1 hd2
        have hsx := HS.out x hxL
        have hsl := slots29_ok (HA.out.later HT.out.bel) x (hLw.get hxL hsx.1 hsx.2) (ent x) hok.len hok.max hok.all
        have HC0 : Hid (∀ W, Below w.heap.size w W → W.cell? ⟨gf, i * 18, none⟩ = some (.int .i64 (x.inum : Int))) := fun W hW => by
          obtain ⟨g', x', hp, hx', _, hc'⟩ := (HL.out.later hW).at (i := i) (by omega)
          injection hp with hp
          injection hp with hp
          subst hp
          rw [hLi] at hx'
          injection hx' with hx'
          subst hx'
          exact hc' 0 _ rfl
        have HX : Hid (nmX ent x = nmOf x.inum ((ent x).drop 2)) := by show _ = _; unfold nmX; rw [if_pos ⟨hd1, hd2⟩]
        have hnl : (namesP ent (L.take i)).length ≤ 1000000 := Nat.le_trans (namesP_le ent L i) HTot.out
        have HAll : Hid _ := hok.all
        have hmax := hok.max
        have g1 : (x.lk == 0) = false := beq_eq_false_iff_ne.2 hd2
        rw [hd1] at c1
        clear hok hsx hLw hxL hLi hd1 hd2
        generalize hN : L.length = N at *
        go_wp2_with (first | (with_reducible refine isLoadR 114 ?_; refine wpList_ldF rfl (.tmp 36) rfl gf (i * 18) x rfl hcx ?_) | (go_at_call 89; fail))
        refine hsl.mono ?_
        rintro e W1 ⟨v2, rfl, hs2⟩
        have HT1 : Hid (NmE w W1 u5 (namesP ent (L.take i)) v2 (ent x)) := ⟨HT.out.call hs2.bel, _, hs2.own⟩
        clear hsl hs2 HT c1 c2 hcx
        obtain ⟨_, ho⟩ := HT1.out.ent
        obtain ⟨pe, ce, rfl, _⟩ := OwnG.lie enE_len ho
        clear ho
        have HP2 : Hid (namesP ent (L.take (i + 1)) = namesP ent (L.take i) ++ nmOf x.inum ((ent x).drop 2)) := by show _ = _; rw [HP.out, HX.out]
        clear HP HX
        generalize hES : ent x = es at *
        obtain ⟨l0, hl0⟩ : ∃ l0, namesP ent (L.take i) = l0 := ⟨_, rfl⟩
        rw [hl0] at HT1 HP2 hnl
        clear hl0
        go_wp2
        go_loopw [5, 9] (fun s5 s9 wx => ∃ k : Nat, 2 ≤ k ∧ (k ≤ 2 ∨ k ≤ es.length) ∧ s9 = .int .i64 k ∧ Hid (NmE w wx s5 (l0 ++ nmOf x.inum ((es.take k).drop 2)) (.slice pe es.length ce) es)) (fun _ s9 _ => es.length + 2 - (intOf s9).toNat)
        case atStart =>
          refine ⟨2, by omega, by omega, rfl, ?_⟩
          have : (es.take 2).drop 2 = [] := List.drop_eq_nil_of_le (by rw [List.length_take]; omega)
          rw [this]
          show NmE _ _ _ (l0 ++ []) _ _
          rw [List.append_nil]
          exact HT1.out
        case round =>
          obtain ⟨k, hk1, hk2, rfl, HK⟩ := hrel
          by_cases hkl : (k : Int) < (es.length : Int)
          · obtain ⟨B, ho⟩ := HK.out.ent
            obtain ⟨pe', ce', he, hlie⟩ := OwnG.lie enE_len ho
            injection he with he1 he2 he3
            subst he1
            obtain ⟨ge, rfl, hgeL, hce⟩ := hlie (by omega)
            have HGe : Hid (ge < wr.heap.size ∧ gf < wr.heap.size) := ⟨hgeL, Nat.lt_of_lt_of_le HGf.out HK.out.st.bel.size⟩
            clear hgeL
            have hek : es[k]? = some es[k] := List.getElem?_eq_getElem (by omega)
            have ce0 : wr.cell? ⟨ge, k * 2, none⟩ = some (.int .u16 (es[k]).1) := hce k _ hek 0 _ rfl
            have hbd := (HAll.out k _ hek).bound
            have HZ : Hid ((es[k]).1 = 0 → nmOf x.inum ((es.take (k + 1)).drop 2) = nmOf x.inum ((es.take k).drop 2)) := fun q => by rw [drop_snoc hk1 hek, nmOf_zero q]
            have HS1 : Hid (¬ (es[k]).1 = 0 → nmOf x.inum ((es.take (k + 1)).drop 2) = nmOf x.inum ((es.take k).drop 2) ++ [((x.inum : Int), (es[k]).1)]) := fun q => by rw [drop_snoc hk1 hek, nmOf_some q]
            have hnm := nmOf_len x.inum ((es.take k).drop 2)
            rw [List.length_drop, List.length_take] at hnm
            have hc0 := HC0.out wr HK.out.st.bel
            have hkM : k < es.length := by omega
            have HQ : Hid (∃ e, es[k]? = some e ∧ e.1 = (es[k]).1) := ⟨_, hek, rfl⟩
            generalize (es[k]).1 = q at *
            clear hce hek ho hlie he2
            by_cases hq : q = 0
            · have HZ2 : Hid _ := HZ.out hq
              subst hq
              clear HZ HS1
              generalize hM : es.length = M at *
              go_wp2
              exact ⟨⟨k + 1, by omega, by omega, by go_num, by have := HZ2.out; rw [this]; exact HK.out⟩, by simp [intOf]; omega⟩
            · have HZ2 : Hid _ := HS1.out hq
              have gq : (q == 0) = false := beq_eq_false_iff_ne.2 hq
              have gq2 : (q != 0) = true := by rw [bne, gq]; rfl
              have ew : IntKind.i64.wrap q = q := by rw [IntKind.wrap_i64]; omega
              have HKd : Hid (NmE w wr.drew u5 (l0 ++ nmOf x.inum ((es.take k).drop 2)) (.slice (some ⟨ge, 0, none⟩) es.length ce) es) := ⟨HK.out.st.call (Below.refl _ _).drew, by obtain ⟨B, h⟩ := HK.out.ent; exact ⟨B, h.later (Below.refl _ _).drew⟩⟩
              obtain ⟨v', W3, R1, HK3⟩ := HKd.out.push (by rw [List.length_append]; omega) (x.inum : Int) q 138
              have HS3 : Hid (W3.cell? ⟨gf, i * 18, none⟩ = some (.int .i64 (x.inum : Int)) ∧ W3.cell? ⟨ge, k * 2, none⟩ = some (.int .u16 q)) := by
                obtain ⟨e, h1, h2⟩ := HQ.out
                exact ⟨HC0.out W3 HK3.out.st.bel, by rw [← h2]; exact HK3.out.cell h1⟩
              have HK4 : Hid (NmE w W3 v' (l0 ++ nmOf x.inum ((es.take (k + 1)).drop 2)) (.slice (some ⟨ge, 0, none⟩) es.length ce) es) := by
                rw [HZ2.out, ← List.append_assoc]; exact HK3.out
              clear HK3 HKd HZ HS1 HZ2 HK hq hnm hbd
              generalize hM : es.length = M at *
              go_upto_region 11 with fail
              refine wp_region_ord (S := fun u => u.cell? ⟨gf, i * 18, none⟩ = some (.int .i64 (x.inum : Int)) ∧ u.cell? ⟨ge, k * 2, none⟩ = some (.int .u16 q)) [(0, true), (1, true), (2, true), (3, true), (4, true), (5, true), (6, true), (7, true), (8, true), (9, true), (10, true), (11, true), (12, true), (13, false), (14, false), (15, true)] (by kernel_rfl) rfl (by kernel_rfl) (fun d _ _ _ _ h => by cases d <;> exact h) ⟨hc0, ce0⟩ ?_
              have hc0d : wr.drew.cell? ⟨gf, i * 18, none⟩ = some (.int .i64 (x.inum : Int)) := hc0
              have ce0d : wr.drew.cell? ⟨ge, k * 2, none⟩ = some (.int .u16 q) := ce0
              have hgl : gf < wr.drew.heap.size ∧ ge < wr.drew.heap.size := ⟨HGe.out.2, HGe.out.1⟩
              simp only [inOrd, List.getElem?_cons_zero, List.getElem?_cons_succ]
              refine wpOrd_yield (v := u5) rfl (fun u _ => exec_mv rfl rfl) ?_
              simp only [Act.put, List.setIfInBounds_toArray, List.set_cons_succ, List.set_cons_zero]
              refine wpOrd_yield (v := .slice (some ⟨gf, 0, none⟩) N c) rfl (fun u _ => exec_mv rfl rfl) ?_
              simp only [Act.put, List.setIfInBounds_toArray, List.set_cons_succ, List.set_cons_zero]
              refine wpOrd_yield (v := .int .i64 (i : Int)) rfl (fun u _ => exec_mv rfl rfl) ?_
              simp only [Act.put, List.setIfInBounds_toArray, List.set_cons_succ, List.set_cons_zero]
              refine wpOrd_yield (v := .pointer (some ⟨gf, i * 18, none⟩)) rfl (fun u _ => by go_simp) ?_
              simp only [Act.put, List.setIfInBounds_toArray, List.set_cons_succ, List.set_cons_zero]
              refine wpOrd_yield (v := .pointer (some ⟨gf, i * 18, none⟩)) rfl (fun u _ => by go_simp) ?_
              simp only [Act.put, List.setIfInBounds_toArray, List.set_cons_succ, List.set_cons_zero]
              refine wpOrd_yield (v := .int .i64 (x.inum : Int)) rfl (fun u hu => by have := hu.1; go_simp) ?_
              simp only [Act.put, List.setIfInBounds_toArray, List.set_cons_succ, List.set_cons_zero]
              refine wpOrd_yield (v := .slice (some ⟨ge, 0, none⟩) M ce) rfl (fun u _ => exec_mv rfl rfl) ?_
              simp only [Act.put, List.setIfInBounds_toArray, List.set_cons_succ, List.set_cons_zero]
              refine wpOrd_yield (v := .int .i64 (k : Int)) rfl (fun u _ => exec_mv rfl rfl) ?_
              simp only [Act.put, List.setIfInBounds_toArray, List.set_cons_succ, List.set_cons_zero]
              refine wpOrd_yield (v := .pointer (some ⟨ge, k * 2, none⟩)) rfl (fun u _ => by go_simp) ?_
              simp only [Act.put, List.setIfInBounds_toArray, List.set_cons_succ, List.set_cons_zero]
              refine wpOrd_yield (v := .pointer (some ⟨ge, k * 2, none⟩)) rfl (fun u _ => by go_simp) ?_
              simp only [Act.put, List.setIfInBounds_toArray, List.set_cons_succ, List.set_cons_zero]
              refine wpOrd_yield (v := .int .u16 q) rfl (fun u hu => by have := hu.2; go_simp) ?_
              simp only [Act.put, List.setIfInBounds_toArray, List.set_cons_succ, List.set_cons_zero]
              refine wpOrd_yield (v := .int .i64 q) rfl (fun u _ => by go_simp) ?_
              simp only [Act.put, List.setIfInBounds_toArray, List.set_cons_succ, List.set_cons_zero]
              refine wpOrd_yield (v := .agg #[.int .i64 (x.inum : Int), .int .i64 q]) rfl (fun u _ => by go_simp) ?_
              simp only [Act.put, List.setIfInBounds_toArray, List.set_cons_succ, List.set_cons_zero]
              refine wpOrd_act rfl (exec_slice192 rfl rfl) ?_ ?_
              · exact ⟨((below_new wr.drew _).cell (p := ⟨gf, i * 18, none⟩) hgl.1).trans hc0d, ((below_new wr.drew _).cell (p := ⟨ge, k * 2, none⟩) hgl.2).trans ce0d⟩
              simp only [Act.put, List.setIfInBounds_toArray, List.set_cons_succ, List.set_cons_zero]
              refine wpOrd_act rfl (exec_push rfl rfl rfl R1) HS3.out ?_
              simp only [Act.put, List.setIfInBounds_toArray, List.set_cons_succ, List.set_cons_zero]
              refine wpOrd_yield (v := v') rfl (fun u _ => by simp [execOp, Act.eval]) ?_
              simp only [Act.put, List.setIfInBounds_toArray, List.set_cons_succ, List.set_cons_zero]
              refine wpOrd_nil ?_
              clear hc0 ce0 hc0d ce0d hgl R1 HS3
              go_wp2
              exact ⟨⟨k + 1, by omega, by omega, by go_num, HK4.out⟩, by simp [intOf]; omega⟩
          · have HK2 : Hid (NmS w wr u5 (namesP ent (L.take (i + 1)))) := by
              have h := HK.out.st
              rw [List.take_of_length_le (by omega)] at h
              rw [HP2.out]
              exact h
            clear HK HP2
            generalize hM : es.length = M at *
            go_wp2
            exact ⟨⟨i + 1, by omega, by go_num, HK2.out⟩, by simp [intOf]; omega⟩
      · have HP2 : Hid (namesP ent (L.take (i + 1)) = namesP ent (L.take i)) := by
          show _ = _
          rw [HP.out]
          unfold nmX
          rw [if_neg hd, List.append_nil]
        clear HP hcx hLw hLi hxL
        generalize hN : L.length = N at *
        by_cases hk2 : x.k = 2
        · have hl0 : x.lk = 0 := Classical.byContradiction fun q => hd ⟨hk2, q⟩
          rw [hk2] at c1
          rw [hl0] at c2
          clear hd
          go_wp2
          exact ⟨⟨i + 1, by omega, by go_num, by have := HP2.out; rw [this]; exact HT.out⟩, by simp [intOf]; omega⟩
        · have g1 : (x.k == 2) = false := beq_eq_false_iff_ne.2 hk2
          have g2 : (x.k != 2) = true := by rw [bne, g1]; rfl
          clear hd
          go_wp2
          exact ⟨⟨i + 1, by omega, by go_num, by have := HP2.out; rw [this]; exact HT.out⟩, by simp [intOf]; omega⟩
    · obtain rfl : i = L.length := by omega
      have HR : Hid (NmS w wr u5 (namesP ent L)) := by
        have := HT.out
        rwa [List.take_length] at this
      clear HT HL HA HS HE
      generalize L.length = N at *
      go_wp2
      go_ret
      exact ⟨_, rfl, HR.out⟩
end Go.Proofs.YtlcdpmjdnihocaaGreat
