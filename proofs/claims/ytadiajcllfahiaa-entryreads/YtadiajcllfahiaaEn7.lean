/- What is written is read; entries compared. -/
import Derived.Test.YtadiajcllfahiaaEn6
namespace Go.Proofs.Ytadiajcllfahiaa
open Go.RowKit Go.Maps
theorem txt_self (s : ByteArray) : txt (byt s) s.size = s := by
  apply ByteArray.ext
  apply Array.ext_getElem?
  intro k
  have hs : s.data.size = s.size := rfl
  have ht : (txt (byt s) s.size).data.size = s.size := txt_size _ _
  by_cases hk : k < s.size
  · have e : (txt (byt s) s.size).data[k]? = some (toB (byt s k)) := by unfold txt; simp [hk]
    rw [e, Array.getElem?_eq_getElem (by rw [hs]; exact hk)]
    congr 1
    unfold byt
    rw [dif_pos hk]
    show UInt8.ofNat ((s[k].toNat : Nat) : Int).toNat = s[k]
    rw [Int.toNat_natCast, UInt8.ofNat_toNat]
  · rw [Array.getElem?_eq_none (by omega), Array.getElem?_eq_none (by omega)]
theorem byt_out {s : ByteArray} {k : Nat} (h : ¬ k < s.size) : byt s k = 0 := by unfold byt; rw [dif_neg h]
theorem encP_byt {i : Int} {s : ByteArray} (hi : 0 ≤ i ∧ i < 65536) : Byt16 (encP i s) := fun j _ => by
  unfold encP
  split
  · omega
  · split
    · omega
    · exact byt_bd _ _
theorem encF_byt {i : Int} {s : ByteArray} (hi : 0 ≤ i ∧ i < 65536) : Byt16 (encF i s) := by
  unfold encF
  split
  · exact encP_byt hi
  · intro j _; unfold nought; omega
theorem nmF_enc (i : Int) (s : ByteArray) : nmF (encP i s) = byt s := by
  funext k
  unfold nmF encP
  rw [if_neg (by omega), if_neg (by omega), Nat.add_sub_cancel_left]
theorem dcI_enc {i : Int} {s : ByteArray} (_ : 0 ≤ i ∧ i < 65536) : dcI (encP i s) = i := by
  unfold dcI encP
  rw [if_pos rfl, if_neg (by omega), if_pos rfl]
  omega
theorem dcS_enc {i : Int} {s : ByteArray} (h : chV i s = 0) : dcS (encP i s) = s := by
  unfold dcS
  rw [nmF_enc]
  have hu : upto (byt s) 14 = s.size := by
    rcases chV_ok h with ⟨_, rfl⟩ | ⟨_, h⟩
    · exact upto_is _ 14 0 (by omega) (fun j hj => absurd hj (Nat.not_lt_zero j)) (fun _ => byt_none 0)
    · obtain ⟨h1, h2, h3⟩ := nmV_size h
      exact upto_is _ 14 s.size h2 (fun j hj => (oddB_false h3 j hj).1) (fun _ => byt_out (by omega))
  rw [hu, txt_self]
theorem dcOk_enc {i : Int} {s : ByteArray} (hi : 0 ≤ i ∧ i < 65536) (h : chV i s = 0) : dcOk (encP i s) = true := by
  unfold dcOk
  rw [dcI_enc hi, dcS_enc h, h, sameN_self]
  rfl
/-- What is written is read. -/
theorem decR_enc {i : Int} {s : ByteArray} (hi : 0 ≤ i ∧ i < 65536) (h : chV i s = 0) : decR (encP i s) = enR i s ∧ decE (encP i s) = 0 := by
  unfold decR decE
  rw [dcOk_enc hi h, dcI_enc hi, dcS_enc h]
  exact ⟨rfl, rfl⟩
theorem dcOk_back {f : Nat → Int} (h : dcOk f = true) : chV (dcI f) (dcS f) = 0 ∧ ∀ j, j < 16 → encP (dcI f) (dcS f) j = f j := by
  unfold dcOk at h
  rw [Bool.and_eq_true] at h
  exact ⟨beq_iff_eq.1 h.1, (sameN_iff _ _ _).1 h.2⟩
theorem encP_inj {i j : Int} {s t : ByteArray} (hi : 0 ≤ i ∧ i < 65536) (hj : 0 ≤ j ∧ j < 65536) (h : chV i s = 0) (k : chV j t = 0) (e : sameN 16 (encP i s) (encP j t) = true) : i = j ∧ s = t := by
  have e2 := (sameN_iff _ _ _).1 e
  have hI : dcI (encP i s) = dcI (encP j t) := by unfold dcI; rw [e2 0 (by omega), e2 1 (by omega)]
  rw [dcI_enc hi, dcI_enc hj] at hI
  have hN : ∀ k, k < 14 → nmF (encP i s) k = nmF (encP j t) k := fun k hk => e2 (2 + k) (by omega)
  have hU : upto (nmF (encP i s)) 14 = upto (nmF (encP j t)) 14 := by
    refine upto_is _ 14 _ (upto_le _ _) (fun a ha => ?_) (fun ha => ?_)
    · rw [hN a (by have := upto_le (nmF (encP j t)) 14; omega)]
      exact upto_some _ 14 a ha
    · rw [hN _ ha]
      exact upto_end _ 14 ha
  have hS : dcS (encP i s) = dcS (encP j t) := by
    unfold dcS
    rw [hU]
    exact txt_congr fun k hk => hN k (by have := upto_le (nmF (encP j t)) 14; omega)
  rw [dcS_enc h, dcS_enc k] at hS
  exact ⟨hI, hS⟩
def sameE (i j : Int) (s t : ByteArray) : Bool := i == j && s.toList == t.toList
theorem sameE_self (i : Int) (s : ByteArray) : sameE i i s s = true := by simp [sameE]
theorem sameE_iff {i j : Int} {s t : ByteArray} : sameE i j s t = true ↔ i = j ∧ s = t := by
  unfold sameE
  rw [Bool.and_eq_true, beq_iff_eq, beq_iff_eq]
  refine and_congr Iff.rfl ⟨fun h => ?_, fun h => by rw [h]⟩
  rw [ByteArray.toList_eq, ByteArray.toList_eq] at h
  exact ByteArray.ext (Array.toList_inj.1 h)
theorem eqE (i j : Int) (s t : ByteArray) (w : World) : (Op.equalIn 10000 24 (.agg (enR i s)) (.agg (enR j t))).run Try.prog w = .ok (sameE i j s t) w := by
  unfold enR sameE
  go_simp
  by_cases h : i = j <;> by_cases k : s.toList = t.toList <;> simp [h, k]
section
variable {ops : Array Oper} {rest : List Oper} {o : Oper} {a : Act} {W : World} {Q : Exit → Act → World → Prop}
theorem egE : Try.prog.eqGuardType Try.prog.depth 24 = false := by kernel_rfl
theorem exec_eqE {x y : Operand} {i j : Int} {s t : ByteArray} {b : Bool} (ho : o.op = .binOp .eql 24 x y 24) (hx : a.eval x = .agg (enR i s)) (hy : a.eval y = .agg (enR j t)) (hb : sameE i j s t = b) : (execOp a.eval o).run Try.prog W = .ok (.value (.bool b)) W := by
  have e : (binOp .eql 24 (.agg (enR i s)) (.agg (enR j t))).run Try.prog W = .ok (.bool b) W := by
    rw [run_eql_struct, eqE, hb]; rfl
  generalize enR i s = F at *
  generalize enR j t = G at *
  unfold execOp
  simp only [ho, hx, hy, Sem.run_bind, run_eqGuard_agg W _ 24 _ _ _ _ egE, e, Result.andThen_ok, Sem.run_pure]
theorem exec_neE {x y : Operand} {i j : Int} {s t : ByteArray} {b : Bool} (ho : o.op = .binOp .neq 24 x y 24) (hx : a.eval x = .agg (enR i s)) (hy : a.eval y = .agg (enR j t)) (hb : sameE i j s t = b) : (execOp a.eval o).run Try.prog W = .ok (.value (.bool (!b))) W := by
  have e : (binOp .neq 24 (.agg (enR i s)) (.agg (enR j t))).run Try.prog W = .ok (.bool (!b)) W := by
    rw [run_neq_struct, eqE, hb]; rfl
  generalize enR i s = F at *
  generalize enR j t = G at *
  unfold execOp
  simp only [ho, hx, hy, Sem.run_bind, run_eqGuard_agg W _ 24 _ _ _ _ egE, e, Result.andThen_ok, Sem.run_pure]
theorem wpList_exec {v : Value} (hw : Region.wanted o (yielded ops a.tmps) = true) (hr : (execOp a.eval o).run Try.prog W = .ok (.value v) W) (h : wpList Try.prog ops Q rest (a.put o.dst v) W) : wpList Try.prog ops Q (o :: rest) a W := by
  unfold wpList
  rw [if_pos hw]
  refine .inl ?_
  unfold Oper.wp
  rw [hr]
  exact h
theorem exec_ldE {x : Operand} {g : Nat} {i : Int} {s : ByteArray} (ho : o.op = .load 24 x) (hx : a.eval x = .pointer (some ⟨g, 0, none⟩)) (hg : W.heap[g]? = some (.cells (enR i s) 24)) : (execOp a.eval o).run Try.prog W = .ok (.value (.agg (enR i s))) W := by
  unfold execOp
  simp only [ho, hx, Instr.loadAt, Instr.sureAddr, Sem.run_bind, Sem.run_pure, Result.andThen_ok, run_loadVar_row W g 24 24 (enR i s) (0, 0) _ hg Try.underlying24 rfl (by rw [enR_size]; exact sizeEn)]
theorem exec_ldN {ty : TypeId} {x : Operand} {g : Nat} {f : Nat → Int} {n : Nat} {t : TypeId} (hu : Try.prog.underlying ty = some (.array n 5)) (hz : (Try.prog.info? ty).map (·.size) = some n) (ho : o.op = .load ty x) (hx : a.eval x = .pointer (some ⟨g, 0, none⟩)) (hg : W.heap[g]? = some (.cells (rowN .u8 f n) t)) : (execOp a.eval o).run Try.prog W = .ok (.value (.agg (rowN .u8 f n))) W := by
  unfold execOp
  simp only [ho, hx, Instr.loadAt, Instr.sureAddr, Sem.run_bind, Sem.run_pure, Result.andThen_ok, run_loadVar_row W g t ty (rowN .u8 f n) (0, 0) _ hg hu rfl (by rw [rowN_size]; exact hz)]
end
set_option maxRecDepth 20000 in
set_option maxHeartbeats 1000000 in
theorem ab_any (w : World) : Calls Try.prog 19 #[] w fun e w' => e = .returned (.agg (enR 258 ⟨#[97, 98]⟩)) ∧ Below w.heap.size w w' := by
  have z := zeroEn
  have HB : Hid _ := below_new w (.cells #[.int .u16 258, .string ⟨#[97, 98]⟩] 24)
  go_enter Try.func19, Try.ntmps19
  go_wp2
  exact retR Try.underlying24 rfl rfl w.heap.size (enR 258 ⟨#[97, 98]⟩) 24 (by rw [enR_size]; exact sizeEn) rfl (heap_alloc_new _ _) rfl ⟨rfl, HB.out⟩
theorem chV_ab : chV 258 ⟨#[97, 98]⟩ = 0 := by decide
theorem dec_ab : decR (encP 258 ⟨#[97, 98]⟩) = enR 258 ⟨#[97, 98]⟩ ∧ decE (encP 258 ⟨#[97, 98]⟩) = 0 := decR_enc (by omega) chV_ab
/-- Sixteen bytes by the first ones. -/
def fst16 (l : List Int) : Nat → Int := fun j => l.getD j 0
theorem row_ab : rowN .u8 (encP 258 ⟨#[97, 98]⟩) 16 = rowN .u8 (fst16 [2, 1, 97, 98]) 16 := by rfl
end Go.Proofs.Ytadiajcllfahiaa
