/- One kind of step with a cache (0), of both sides: the same answer, and they stand alike behind it; no condition but the counts' bounds. -/
import Derived.Test.YtencclpcebpgmaaP12
namespace Go.Proofs.Ytencclpcebpgmaa
open Go.RowKit Go.Maps
set_option linter.unusedVariables false
set_option maxRecDepth 20000 in
set_option maxHeartbeats 4000000 in
theorem ask_0 {w W : World} {gx d dr c g n : Nat} {c1 w1 : Value} {s : CSt} {t : St} {u : RD} {i : Nat} {l : List Part} (h : AskS w W gx d dr c g n c1 w1 s t u i l) (hi : i < 1000000) (dd sc at_ fl : Value) (hd : dd = .int .u8 0) (A : Int) (ha : at_ = .int .i64 A) (F : Int) (hf : fl = .int .u16 F) (hF : 0 ≤ F ∧ F < 65536) :
    Calls Try.prog 14 #[.pointer (some ⟨gx, 0, none⟩), .agg #[dd, sc, at_, fl], .int .i64 0] W fun e W' => e = .returned (.bool true) ∧ ∃ s' t' u', AskS w W' gx d dr c g n c1 w1 s' t' u' (i + 1) l := by
  subst hd ha hf
  obtain ⟨K, L, R, v, vl, vk, T1, T2, rfl, rfl, rfl, hM, hC, hT, h0⟩ := h
  have HM : Hid (Mate t n u) := hM
  have HC : Hid (Cn t i) := hC
  have HT : Hid (Told T1 T2 i) := hT
  have hcd : CD W K L s t := h0.head
  have hok := hcd.cache.ok
  have hrow : s.row.length ≤ 1000000 := by have := hok.size; have := hok.len; omega
  have HOk : Hid (COk s) := hok
  have HDk : Hid (Ok t) := hcd.disk.ok
  have hroom : Room t := hC.room (by omega)
  have S1 := sep_box h0 #[.int .u8 0, sc, .int .i64 A, .int .u16 F] 46
  have hr : (W.alloc (.cells #[.int .u8 0, sc, .int .i64 A, .int .u16 F] 46)).heap[W.heap.size]? = some (.cells #[.int .u8 0, sc, .int .i64 A, .int .u16 F] 46) := heap_alloc_new _ _
  have HS1 := (show Hid _ from S1)
  have e0 : (W.alloc (.cells #[.int .u8 0, sc, .int .i64 A, .int .u16 F] 46)).cell? ⟨W.heap.size, 0, none⟩ = some (.int .u8 0) := Joins.cell_of_block hr 0
  have e2 : (W.alloc (.cells #[.int .u8 0, sc, .int .i64 A, .int .u16 F] 46)).cell? ⟨W.heap.size, 2, none⟩ = some (.int .i64 A) := Joins.cell_of_block hr 2
  have e3 : (W.alloc (.cells #[.int .u8 0, sc, .int .i64 A, .int .u16 F] 46)).cell? ⟨W.heap.size, 3, none⟩ = some (.int .u16 F) := Joins.cell_of_block hr 3
  have hx := S1.say (bxP gx (xRow L.d R.g K.c g c1 w1 vl vk) 36) (by simp)
  have x2 : (W.alloc (.cells #[.int .u8 0, sc, .int .i64 A, .int .u16 F] 46)).cell? ⟨gx, 2, none⟩ = some (.pointer (some ⟨K.c, 0, none⟩)) := Joins.cell_of_block hx 2
  have x4 : (W.alloc (.cells #[.int .u8 0, sc, .int .i64 A, .int .u16 F] 46)).cell? ⟨gx, 4, none⟩ = some (.pointer (some ⟨g, 0, none⟩)) := Joins.cell_of_block hx 4
  clear h0 hM hC hT hcd hok S1 hr hx
  go_enter Try.func14, Try.ntmps14
  go_upto_region 1 with fail
  generalize W.alloc (.cells #[.int .u8 0, sc, .int .i64 A, .int .u16 F] 46) = X at *
  generalize W.heap.size = B at *
  have z25 := zero25
  have HS2 := (show Hid _ from HS1.out.swap)
  go_wp2_with (first | (go_at_call 24; fail))
  refine (sep_pread HS2.out hroom A).mono ?_
  rintro e Y1 ⟨rfl, K', L', hcK, hdL, y1⟩
  have m1 := HM.out.reB (c := s) A
  have m2 := HM.out.uE (c := s) A
  have m3 := HM.out.reC (c := s) A
  have m4 := HM.out.reD (c := s) A
  have HC2 : Hid (Cn (rdD s t A) (i + 1)) := HC.out.read s A
  generalize rdB s t A = f1 at *
  generalize usedE s t A = eU at *
  have y2 := sep_box y1 (blk f1) 59
  have e2' : (Y1.alloc (.cells (blk f1) 59)).cell? ⟨B, 2, none⟩ = some (.int .i64 A) := Joins.cell_of_block (y2.say (bxP B #[.int .u8 0, sc, .int .i64 A, .int .u16 F] 46) (by simp)) 2
  have HY2 := (show Hid _ from y2)
  have hb1 : (Y1.alloc (.cells (blk f1) 59)).heap[Y1.heap.size]? = some (.cells (blk f1) 59) := heap_alloc_new _ _
  clear y1 y2 HS2 HS1
  go_wp2_with (first | refine wpList_store58_new rfl _ _ rfl f1 nought Y1.heap.size rfl rfl rfl ?_ | (go_at_call 44; fail))
  generalize Y1.alloc (.cells (blk f1) 59) = Y2 at *
  generalize Y1.heap.size = b1 at *
  have y3 := mv4 HY2.out
  refine (sep_rread y3 hrow ⟨by rw [HM.out.reads]; exact HDk.out.reads, by rw [HM.out.reads]; have := HC.out.reads; omega⟩ A).mono ?_
  rw [m1, m2]
  rintro e Y3 ⟨rfl, v', y4⟩
  have y5 := sep_box y4 (blk f1) 59
  rw [m3] at y5
  have hb2 : (Y3.alloc (.cells (blk f1) 59)).heap[b1]? = some (.cells (blk f1) 59) := y5.say (bxP b1 (blk f1) 59) (by simp)
  have hb3 : (Y3.alloc (.cells (blk f1) 59)).heap[Y3.heap.size]? = some (.cells (blk f1) 59) := heap_alloc_new _ _
  have HF : Hid (AskS w (Y3.alloc (.cells (blk f1) 59)) gx L.d R.g K.c g n c1 w1 (rdC s t A) (rdD s t A) (reD n s u A) (i + 1) l) := by
    refine ⟨K', L', R, v', vl, vk, T1, T2, hcK, hdL, rfl, m4, HC2.out, HT.out.more, ?_⟩
    have y6 := mvA y5
    exact y6
  have hsm : sameB f1 f1 = true := sameB_self f1
  have hee : (eU == eU) = true := by simp
  clear y3 y4 y5 m1 m2 m3 m4 HY2 e0 e2 e3 x2 x4 e2' hb1
  go_wp2_with (first | refine wpList_store58_new rfl _ _ rfl f1 nought Y3.heap.size rfl rfl rfl ?_ | refine wpList_load25 rfl _ rfl b1 rfl f1 hb2 ?_ | refine wpList_load25 rfl _ rfl Y3.heap.size rfl f1 hb3 ?_ | refine wpList_eq58 rfl _ _ rfl f1 f1 true rfl rfl hsm ?_)
  go_ret
  exact ⟨rfl, _, _, _, HF.out⟩
end Go.Proofs.Ytencclpcebpgmaa
