/- Several texts joined, each with its own remark; no condition. -/
import Derived.Test.YtencclpcebpgmaaP17
/- One kind of step with the second cache (1), of both sides: the same answer, and they stand alike behind it; no condition but the counts' bounds. -/
namespace Go.Proofs.Ytencclpcebpgmaa
open Go.RowKit Go.Maps
set_option linter.unusedVariables false
set_option maxRecDepth 20000 in
set_option maxHeartbeats 4000000 in
theorem asq_1 {w W : World} {gx d dr c g n : Nat} {c1 w1 : Value} {s : CSt} {t : St} {u : RD} {i : Nat} {l : List Part} (h : AskT w W gx d dr c g n c1 w1 s t u i l) (hi : i < 1000000) (dd sc at_ fl : Value) (hd : dd = .int .u8 1) (A : Int) (ha : at_ = .int .i64 A) (F : Int) (hf : fl = .int .u16 F) (hF : 0 ≤ F ∧ F < 65536) :
    Calls Try.prog 14 #[.pointer (some ⟨gx, 0, none⟩), .agg #[dd, sc, at_, fl], .int .i64 1] W fun e W' => e = .returned (.bool true) ∧ ∃ s' t' u', AskT w W' gx d dr c g n c1 w1 s' t' u' (i + 1) l := by
  subst hd ha hf
  obtain ⟨K, L, R, v, vl, vk, T1, T2, rfl, rfl, rfl, hM, hC, hT, h0⟩ := h
  have HM : Hid (Mate t n u) := hM
  have HC : Hid (Cn t i) := hC
  have HT : Hid (Told T1 T2 i) := hT
  have hcd : CD W K L s t := h0.head
  have hok := hcd.cache.ok
  have hrow : s.row.length ≤ 1000000 := by have := hok.size; have := hok.len; omega
  have HOk : Hid (COk s) := hok
  have HDk : Hid (Ok t) := hcd.disk.ok
  have hroom : Room t := hC.room (by omega)
  have S1 := sep_box h0 #[.int .u8 1, sc, .int .i64 A, .int .u16 F] 46
  have hr : (W.alloc (.cells #[.int .u8 1, sc, .int .i64 A, .int .u16 F] 46)).heap[W.heap.size]? = some (.cells #[.int .u8 1, sc, .int .i64 A, .int .u16 F] 46) := heap_alloc_new _ _
  have HS1 := (show Hid _ from S1)
  have e0 : (W.alloc (.cells #[.int .u8 1, sc, .int .i64 A, .int .u16 F] 46)).cell? ⟨W.heap.size, 0, none⟩ = some (.int .u8 1) := Joins.cell_of_block hr 0
  have e2 : (W.alloc (.cells #[.int .u8 1, sc, .int .i64 A, .int .u16 F] 46)).cell? ⟨W.heap.size, 2, none⟩ = some (.int .i64 A) := Joins.cell_of_block hr 2
  have e3 : (W.alloc (.cells #[.int .u8 1, sc, .int .i64 A, .int .u16 F] 46)).cell? ⟨W.heap.size, 3, none⟩ = some (.int .u16 F) := Joins.cell_of_block hr 3
  have hx := S1.say (bxP gx (xRo2 L.d R.g K.c g c1 w1 vl vk) 36) (by simp)
  have x2 : (W.alloc (.cells #[.int .u8 1, sc, .int .i64 A, .int .u16 F] 46)).cell? ⟨gx, 3, none⟩ = some (.pointer (some ⟨K.c, 0, none⟩)) := Joins.cell_of_block hx 3
  have x4 : (W.alloc (.cells #[.int .u8 1, sc, .int .i64 A, .int .u16 F] 46)).cell? ⟨gx, 5, none⟩ = some (.pointer (some ⟨g, 0, none⟩)) := Joins.cell_of_block hx 5
  clear h0 hM hC hT hcd hok S1 hr hx
  go_enter Try.func14, Try.ntmps14
  go_upto_region 1 with fail
  generalize W.alloc (.cells #[.int .u8 1, sc, .int .i64 A, .int .u16 F] 46) = X at *
  generalize W.heap.size = B at *
  have z25 := zero25
  have HS2 := (show Hid _ from (Sep.later HS1.out (belowN (Below.refl _ _) 1)).swap)
  have d2 : X.drew.cell? ⟨B, 2, none⟩ = some (.int .i64 A) := e2
  have d3 : X.drew.cell? ⟨B, 3, none⟩ = some (.int .u16 F) := e3
  go_wp2
  refine wp_region_ord (S := fun u => u.cell? ⟨B, 2, none⟩ = some (.int .i64 A) ∧ u.cell? ⟨B, 3, none⟩ = some (.int .u16 F)) [(0, true), (1, true), (2, true), (3, true), (4, true), (7, true), (8, true), (9, true), (10, true), (11, true), (5, false), (6, false), (12, false), (13, false), (14, true), (15, true)] (by kernel_rfl) rfl (by kernel_rfl) (fun d _ _ _ _ h => by cases d <;> exact h) ⟨d2, d3⟩ ?_
  simp only [inOrd, List.getElem?_cons_zero, List.getElem?_cons_succ]
  refine wpOrd_yield (v := .pointer (some ⟨K.c, 0, none⟩)) rfl (fun u _ => exec_mv rfl rfl) ?_
  simp only [Act.put, List.setIfInBounds_toArray, List.set_cons_succ, List.set_cons_zero]
  refine wpOrd_yield (v := .pointer (some ⟨B, 2, none⟩)) rfl (fun u _ => by go_simp) ?_
  simp only [Act.put, List.setIfInBounds_toArray, List.set_cons_succ, List.set_cons_zero]
  refine wpOrd_yield (v := .int .i64 A) rfl (fun u hu => by have := hu.1; go_simp) ?_
  simp only [Act.put, List.setIfInBounds_toArray, List.set_cons_succ, List.set_cons_zero]
  refine wpOrd_yield (v := .pointer (some ⟨B, 3, none⟩)) rfl (fun u _ => by go_simp) ?_
  simp only [Act.put, List.setIfInBounds_toArray, List.set_cons_succ, List.set_cons_zero]
  refine wpOrd_yield (v := .int .u16 F) rfl (fun u hu => by have := hu.2; go_simp) ?_
  simp only [Act.put, List.setIfInBounds_toArray, List.set_cons_succ, List.set_cons_zero]
  refine wpOrd_yield (v := .pointer (some ⟨g, 0, none⟩)) rfl (fun u _ => exec_mv rfl rfl) ?_
  simp only [Act.put, List.setIfInBounds_toArray, List.set_cons_succ, List.set_cons_zero]
  refine wpOrd_yield (v := .pointer (some ⟨B, 2, none⟩)) rfl (fun u _ => by go_simp) ?_
  simp only [Act.put, List.setIfInBounds_toArray, List.set_cons_succ, List.set_cons_zero]
  refine wpOrd_yield (v := .int .i64 A) rfl (fun u hu => by have := hu.1; go_simp) ?_
  simp only [Act.put, List.setIfInBounds_toArray, List.set_cons_succ, List.set_cons_zero]
  refine wpOrd_yield (v := .pointer (some ⟨B, 3, none⟩)) rfl (fun u _ => by go_simp) ?_
  simp only [Act.put, List.setIfInBounds_toArray, List.set_cons_succ, List.set_cons_zero]
  refine wpOrd_yield (v := .int .u16 F) rfl (fun u hu => by have := hu.2; go_simp) ?_
  simp only [Act.put, List.setIfInBounds_toArray, List.set_cons_succ, List.set_cons_zero]
  have hfa := fill_any F hF
  have hcan := fill_can F hF
  generalize fillF F = f1 at *
  refine wpOrd_call rfl 35 _ _ rfl Try.call35 [.int .u16 F] rfl ?_
  refine (hfa _).mono ?_
  rintro e Y0 ⟨rfl, hb0⟩
  have y0 := Sep.later HS2.out hb0
  refine ⟨_, rfl, ⟨Joins.cell_of_block (y0.say (bxP B #[.int .u8 1, sc, .int .i64 A, .int .u16 F] 46) (by simp)) 2, Joins.cell_of_block (y0.say (bxP B #[.int .u8 1, sc, .int .i64 A, .int .u16 F] 46) (by simp)) 3⟩, ?_⟩
  simp only [Act.put, List.setIfInBounds_toArray, List.set_cons_succ, List.set_cons_zero]
  refine wpOrd_call rfl 25 _ _ rfl Try.call25 [.pointer (some ⟨K.c, 0, none⟩), .int .i64 A, .agg (blk f1)] rfl ?_
  refine (sep_pput y0 A hcan).mono ?_
  rintro e Y1 ⟨rfl, K', L', hcK, hdL, y1⟩
  refine ⟨_, rfl, ⟨Joins.cell_of_block (y1.say (bxP B #[.int .u8 1, sc, .int .i64 A, .int .u16 F] 46) (by simp)) 2, Joins.cell_of_block (y1.say (bxP B #[.int .u8 1, sc, .int .i64 A, .int .u16 F] 46) (by simp)) 3⟩, ?_⟩
  simp only [Act.put, List.setIfInBounds_toArray, List.set_cons_succ, List.set_cons_zero]
  refine wpOrd_call rfl 35 _ _ rfl Try.call35 [.int .u16 F] rfl ?_
  refine (hfa _).mono ?_
  rintro e Y2 ⟨rfl, hb2⟩
  have y2 := Sep.third (Sep.later y1 hb2)
  refine ⟨_, rfl, ⟨Joins.cell_of_block (y2.say (bxP B #[.int .u8 1, sc, .int .i64 A, .int .u16 F] 46) (by simp)) 2, Joins.cell_of_block (y2.say (bxP B #[.int .u8 1, sc, .int .i64 A, .int .u16 F] 46) (by simp)) 3⟩, ?_⟩
  simp only [Act.put, List.setIfInBounds_toArray, List.set_cons_succ, List.set_cons_zero]
  refine wpOrd_call rfl 45 _ _ rfl Try.call45 [.pointer (some ⟨g, 0, none⟩), .int .i64 A, .agg (blk f1)] rfl ?_
  refine (sep_rput y2 hrow A f1).mono ?_
  rw [HM.out.uE, HM.out.ptC]
  rintro e Y3 ⟨rfl, v', y3⟩
  refine ⟨_, rfl, ⟨Joins.cell_of_block (y3.say (bxP B #[.int .u8 1, sc, .int .i64 A, .int .u16 F] 46) (by simp)) 2, Joins.cell_of_block (y3.say (bxP B #[.int .u8 1, sc, .int .i64 A, .int .u16 F] 46) (by simp)) 3⟩, ?_⟩
  simp only [Act.put, List.setIfInBounds_toArray, List.set_cons_succ, List.set_cons_zero]
  have HFF : Hid (AskT w Y3 gx L.d R.g K.c g n c1 w1 (putC s t A f1) t u (i + 1) l) := ⟨K', L', R, v', vl, vk, T1, T2, hcK, hdL, rfl, HM.out, HC.out.more, HT.out.more, (Sep.third y3).drop.swap⟩
  have hee : (usedE s t A == usedE s t A) = true := by simp
  clear y0 y1 y2 y3 hb0 hb2
  generalize usedE s t A = eU at *
  refine wpOrd_yield (v := .bool true) rfl (fun u _ => by have := hee; go_simp) ?_
  simp only [Act.put, List.setIfInBounds_toArray, List.set_cons_succ, List.set_cons_zero]
  refine wpOrd_yield (v := .bool true) rfl (fun u _ => by go_simp) ?_
  simp only [Act.put, List.setIfInBounds_toArray, List.set_cons_succ, List.set_cons_zero]
  refine wpOrd_nil ?_
  go_wp2
  go_ret
  exact ⟨rfl, _, _, _, HFF.out⟩
end Go.Proofs.Ytencclpcebpgmaa
/- One kind of step with the second cache (2), of both sides: the same answer, and they stand alike behind it; no condition but the counts' bounds. -/
namespace Go.Proofs.Ytencclpcebpgmaa
open Go.RowKit Go.Maps
set_option linter.unusedVariables false
set_option maxRecDepth 20000 in
set_option maxHeartbeats 4000000 in
theorem asq_2 {w W : World} {gx d dr c g n : Nat} {c1 w1 : Value} {s : CSt} {t : St} {u : RD} {i : Nat} {l : List Part} (h : AskT w W gx d dr c g n c1 w1 s t u i l) (hi : i < 1000000) (dd sc at_ fl : Value) (hd : dd = .int .u8 2) (A : Int) (ha : at_ = .int .i64 A) (F : Int) (hf : fl = .int .u16 F) (hF : 0 ≤ F ∧ F < 65536) :
    Calls Try.prog 14 #[.pointer (some ⟨gx, 0, none⟩), .agg #[dd, sc, at_, fl], .int .i64 1] W fun e W' => e = .returned (.bool true) ∧ ∃ s' t' u', AskT w W' gx d dr c g n c1 w1 s' t' u' (i + 1) l := by
  subst hd ha hf
  obtain ⟨K, L, R, v, vl, vk, T1, T2, rfl, rfl, rfl, hM, hC, hT, h0⟩ := h
  have HM : Hid (Mate t n u) := hM
  have HC : Hid (Cn t i) := hC
  have HT : Hid (Told T1 T2 i) := hT
  have hcd : CD W K L s t := h0.head
  have hok := hcd.cache.ok
  have hrow : s.row.length ≤ 1000000 := by have := hok.size; have := hok.len; omega
  have HOk : Hid (COk s) := hok
  have HDk : Hid (Ok t) := hcd.disk.ok
  have hroom : Room t := hC.room (by omega)
  have S1 := sep_box h0 #[.int .u8 2, sc, .int .i64 A, .int .u16 F] 46
  have hr : (W.alloc (.cells #[.int .u8 2, sc, .int .i64 A, .int .u16 F] 46)).heap[W.heap.size]? = some (.cells #[.int .u8 2, sc, .int .i64 A, .int .u16 F] 46) := heap_alloc_new _ _
  have HS1 := (show Hid _ from S1)
  have e0 : (W.alloc (.cells #[.int .u8 2, sc, .int .i64 A, .int .u16 F] 46)).cell? ⟨W.heap.size, 0, none⟩ = some (.int .u8 2) := Joins.cell_of_block hr 0
  have e2 : (W.alloc (.cells #[.int .u8 2, sc, .int .i64 A, .int .u16 F] 46)).cell? ⟨W.heap.size, 2, none⟩ = some (.int .i64 A) := Joins.cell_of_block hr 2
  have e3 : (W.alloc (.cells #[.int .u8 2, sc, .int .i64 A, .int .u16 F] 46)).cell? ⟨W.heap.size, 3, none⟩ = some (.int .u16 F) := Joins.cell_of_block hr 3
  have hx := S1.say (bxP gx (xRo2 L.d R.g K.c g c1 w1 vl vk) 36) (by simp)
  have x2 : (W.alloc (.cells #[.int .u8 2, sc, .int .i64 A, .int .u16 F] 46)).cell? ⟨gx, 3, none⟩ = some (.pointer (some ⟨K.c, 0, none⟩)) := Joins.cell_of_block hx 3
  have x4 : (W.alloc (.cells #[.int .u8 2, sc, .int .i64 A, .int .u16 F] 46)).cell? ⟨gx, 5, none⟩ = some (.pointer (some ⟨g, 0, none⟩)) := Joins.cell_of_block hx 5
  clear h0 hM hC hT hcd hok S1 hr hx
  go_enter Try.func14, Try.ntmps14
  go_upto_region 1 with fail
  generalize W.alloc (.cells #[.int .u8 2, sc, .int .i64 A, .int .u16 F] 46) = X at *
  generalize W.heap.size = B at *
  have z25 := zero25
  have HS2 := (show Hid _ from (Sep.later HS1.out (belowN (Below.refl _ _) 1)).swap)
  have d2 : X.drew.cell? ⟨B, 2, none⟩ = some (.int .i64 A) := e2
  go_wp2
  refine wp_region_ord (S := fun u => u.cell? ⟨B, 2, none⟩ = some (.int .i64 A)) [(0, true), (1, true), (2, true), (4, true), (5, true), (6, true), (3, false), (7, false), (8, true), (9, true)] (by kernel_rfl) rfl (by kernel_rfl) (fun d _ _ _ _ h => by cases d <;> exact h) d2 ?_
  simp only [inOrd, List.getElem?_cons_zero, List.getElem?_cons_succ]
  refine wpOrd_yield (v := .pointer (some ⟨K.c, 0, none⟩)) rfl (fun u _ => exec_mv rfl rfl) ?_
  simp only [Act.put, List.setIfInBounds_toArray, List.set_cons_succ, List.set_cons_zero]
  refine wpOrd_yield (v := .pointer (some ⟨B, 2, none⟩)) rfl (fun u _ => by go_simp) ?_
  simp only [Act.put, List.setIfInBounds_toArray, List.set_cons_succ, List.set_cons_zero]
  refine wpOrd_yield (v := .int .i64 A) rfl (fun u hu => by have := hu; go_simp) ?_
  simp only [Act.put, List.setIfInBounds_toArray, List.set_cons_succ, List.set_cons_zero]
  refine wpOrd_yield (v := .pointer (some ⟨g, 0, none⟩)) rfl (fun u _ => exec_mv rfl rfl) ?_
  simp only [Act.put, List.setIfInBounds_toArray, List.set_cons_succ, List.set_cons_zero]
  refine wpOrd_yield (v := .pointer (some ⟨B, 2, none⟩)) rfl (fun u _ => by go_simp) ?_
  simp only [Act.put, List.setIfInBounds_toArray, List.set_cons_succ, List.set_cons_zero]
  refine wpOrd_yield (v := .int .i64 A) rfl (fun u hu => by have := hu; go_simp) ?_
  simp only [Act.put, List.setIfInBounds_toArray, List.set_cons_succ, List.set_cons_zero]
  refine wpOrd_call rfl 26 _ _ rfl Try.call26 [.pointer (some ⟨K.c, 0, none⟩), .int .i64 A] rfl ?_
  refine (sep_pflush HS2.out hroom A).mono ?_
  rintro e Y1 ⟨rfl, K', L', hcK, hdL, y1⟩
  refine ⟨_, rfl, Joins.cell_of_block (y1.say (bxP B #[.int .u8 2, sc, .int .i64 A, .int .u16 F] 46) (by simp)) 2, ?_⟩
  simp only [Act.put, List.setIfInBounds_toArray, List.set_cons_succ, List.set_cons_zero]
  have y2 := Sep.third y1
  refine wpOrd_call rfl 46 _ _ rfl Try.call46 [.pointer (some ⟨g, 0, none⟩), .int .i64 A] rfl ?_
  refine (sep_rflush y2 hrow (HM.out.small HC.out (by omega) HDk.out) HOk.out.nodup A).mono ?_
  rw [HM.out.flE, HM.out.flC]
  rintro e Y3 ⟨rfl, y3⟩
  refine ⟨_, rfl, Joins.cell_of_block (y3.say (bxP B #[.int .u8 2, sc, .int .i64 A, .int .u16 F] 46) (by simp)) 2, ?_⟩
  simp only [Act.put, List.setIfInBounds_toArray, List.set_cons_succ, List.set_cons_zero]
  have HFF : Hid (AskT w Y3 gx L.d R.g K.c g n c1 w1 (flushC s t A) (flushD s t A) (flD n s u A) (i + 1) l) := ⟨K', L', R, v, vl, vk, T1, T2, hcK, hdL, rfl, HM.out.flD HDk.out.fuse.1 A, HC.out.flush s A, HT.out.more, (Sep.third y3).drop.swap⟩
  have hee : (flushE s t A == flushE s t A) = true := by simp
  clear y1 y2 y3
  generalize flushE s t A = eU at *
  refine wpOrd_yield (v := .bool true) rfl (fun u _ => by have := hee; go_simp) ?_
  simp only [Act.put, List.setIfInBounds_toArray, List.set_cons_succ, List.set_cons_zero]
  refine wpOrd_yield (v := .bool true) rfl (fun u _ => by go_simp) ?_
  simp only [Act.put, List.setIfInBounds_toArray, List.set_cons_succ, List.set_cons_zero]
  refine wpOrd_nil ?_
  go_wp2
  go_ret
  exact ⟨rfl, _, _, _, HFF.out⟩
end Go.Proofs.Ytencclpcebpgmaa
/- One kind of step with the second cache (3), of both sides: the same answer, and they stand alike behind it; no condition but the counts' bounds. -/
namespace Go.Proofs.Ytencclpcebpgmaa
open Go.RowKit Go.Maps
set_option linter.unusedVariables false
set_option maxRecDepth 20000 in
set_option maxHeartbeats 4000000 in
theorem asq_3 {w W : World} {gx d dr c g n : Nat} {c1 w1 : Value} {s : CSt} {t : St} {u : RD} {i : Nat} {l : List Part} (h : AskT w W gx d dr c g n c1 w1 s t u i l) (hi : i < 1000000) (dd sc at_ fl : Value) (hd : dd = .int .u8 3) (A : Int) (ha : at_ = .int .i64 A) (F : Int) (hf : fl = .int .u16 F) (hF : 0 ≤ F ∧ F < 65536) :
    Calls Try.prog 14 #[.pointer (some ⟨gx, 0, none⟩), .agg #[dd, sc, at_, fl], .int .i64 1] W fun e W' => e = .returned (.bool true) ∧ ∃ s' t' u', AskT w W' gx d dr c g n c1 w1 s' t' u' (i + 1) l := by
  subst hd ha hf
  obtain ⟨K, L, R, v, vl, vk, T1, T2, rfl, rfl, rfl, hM, hC, hT, h0⟩ := h
  have HM : Hid (Mate t n u) := hM
  have HC : Hid (Cn t i) := hC
  have HT : Hid (Told T1 T2 i) := hT
  have hcd : CD W K L s t := h0.head
  have hok := hcd.cache.ok
  have hrow : s.row.length ≤ 1000000 := by have := hok.size; have := hok.len; omega
  have HOk : Hid (COk s) := hok
  have HDk : Hid (Ok t) := hcd.disk.ok
  have hroom : Room t := hC.room (by omega)
  have S1 := sep_box h0 #[.int .u8 3, sc, .int .i64 A, .int .u16 F] 46
  have hr : (W.alloc (.cells #[.int .u8 3, sc, .int .i64 A, .int .u16 F] 46)).heap[W.heap.size]? = some (.cells #[.int .u8 3, sc, .int .i64 A, .int .u16 F] 46) := heap_alloc_new _ _
  have HS1 := (show Hid _ from S1)
  have e0 : (W.alloc (.cells #[.int .u8 3, sc, .int .i64 A, .int .u16 F] 46)).cell? ⟨W.heap.size, 0, none⟩ = some (.int .u8 3) := Joins.cell_of_block hr 0
  have e2 : (W.alloc (.cells #[.int .u8 3, sc, .int .i64 A, .int .u16 F] 46)).cell? ⟨W.heap.size, 2, none⟩ = some (.int .i64 A) := Joins.cell_of_block hr 2
  have e3 : (W.alloc (.cells #[.int .u8 3, sc, .int .i64 A, .int .u16 F] 46)).cell? ⟨W.heap.size, 3, none⟩ = some (.int .u16 F) := Joins.cell_of_block hr 3
  have hx := S1.say (bxP gx (xRo2 L.d R.g K.c g c1 w1 vl vk) 36) (by simp)
  have x2 : (W.alloc (.cells #[.int .u8 3, sc, .int .i64 A, .int .u16 F] 46)).cell? ⟨gx, 3, none⟩ = some (.pointer (some ⟨K.c, 0, none⟩)) := Joins.cell_of_block hx 3
  have x4 : (W.alloc (.cells #[.int .u8 3, sc, .int .i64 A, .int .u16 F] 46)).cell? ⟨gx, 5, none⟩ = some (.pointer (some ⟨g, 0, none⟩)) := Joins.cell_of_block hx 5
  clear h0 hM hC hT hcd hok S1 hr hx
  go_enter Try.func14, Try.ntmps14
  go_upto_region 1 with fail
  generalize W.alloc (.cells #[.int .u8 3, sc, .int .i64 A, .int .u16 F] 46) = X at *
  generalize W.heap.size = B at *
  have z25 := zero25
  have y0 := Sep.later HS1.out (belowN (Below.refl _ _) 1)
  have q1 : CD X.drew K L s t := y0.say (pcP K L s t) (by simp)
  have q2 : RPr X.drew g R v n s u := y0.say (rcP g R v n s u) (by simp)
  have k1 := fast_of q1.cache
  have k2 := fast6 q2.c hrow
  have k3 := len_of_cache q1.cache
  obtain ⟨pv, cv, hv⟩ := q2.c.shape
  have d2 : X.drew.cell? ⟨g, 2, none⟩ = some v := q2.c.cell 2
  rw [hv] at d2
  have HFF : Hid (AskT w X.drew gx L.d R.g K.c g n c1 w1 s t u (i + 1) l) := ⟨K, L, R, v, vl, vk, T1, T2, rfl, rfl, rfl, HM.out, HC.out.more, HT.out.more, y0.drop⟩
  have ef : ((fastN s.row : Int) == (fastN s.row : Int)) = true := by simp
  have el : ((s.row.length : Int) == (s.row.length : Int)) = true := by simp
  clear y0 q1 q2 hv
  generalize (fastN s.row : Int) = fN at *
  generalize s.row.length = N at *
  go_wp2
  refine wp_region_ord (S := fun u => u.cell? ⟨g, 2, none⟩ = some (.slice pv N cv)) [(0, true), (2, true), (1, false), (3, false), (4, true), (5, true), (6, true), (8, true), (9, true), (10, true), (11, true), (12, true), (7, false), (13, true), (14, true), (15, true)] (by kernel_rfl) rfl (by kernel_rfl) (fun d _ _ _ _ h => by cases d <;> exact h) d2 ?_
  simp only [inOrd, List.getElem?_cons_zero, List.getElem?_cons_succ]
  generalize X.drew = Z at *
  refine wpOrd_yield (v := .pointer (some ⟨K.c, 0, none⟩)) rfl (fun u _ => exec_mv rfl rfl) ?_
  simp only [Act.put, List.setIfInBounds_toArray, List.set_cons_succ, List.set_cons_zero]
  refine wpOrd_yield (v := .pointer (some ⟨g, 0, none⟩)) rfl (fun u _ => exec_mv rfl rfl) ?_
  simp only [Act.put, List.setIfInBounds_toArray, List.set_cons_succ, List.set_cons_zero]
  refine wpOrd_call rfl 27 _ _ rfl Try.call27 [.pointer (some ⟨K.c, 0, none⟩)] rfl ?_
  refine k1.mono ?_
  rintro e Y1 ⟨rfl, hY1⟩
  subst hY1
  refine ⟨_, rfl, d2, ?_⟩
  simp only [Act.put, List.setIfInBounds_toArray, List.set_cons_succ, List.set_cons_zero]
  refine wpOrd_call rfl 28 _ _ rfl Try.call28 [.pointer (some ⟨g, 0, none⟩)] rfl ?_
  refine k2.mono ?_
  rintro e Y2 ⟨rfl, hY2⟩
  subst hY2
  refine ⟨_, rfl, d2, ?_⟩
  simp only [Act.put, List.setIfInBounds_toArray, List.set_cons_succ, List.set_cons_zero]
  refine wpOrd_yield (v := .bool true) rfl (fun u _ => by have := ef; go_simp) ?_
  simp only [Act.put, List.setIfInBounds_toArray, List.set_cons_succ, List.set_cons_zero]
  refine wpOrd_yield (v := .bool true) rfl (fun u _ => exec_mv rfl rfl) ?_
  simp only [Act.put, List.setIfInBounds_toArray, List.set_cons_succ, List.set_cons_zero]
  refine wpOrd_yield (v := .pointer (some ⟨K.c, 0, none⟩)) rfl (fun u _ => exec_mv rfl rfl) ?_
  simp only [Act.put, List.setIfInBounds_toArray, List.set_cons_succ, List.set_cons_zero]
  refine wpOrd_yield (v := .pointer (some ⟨g, 0, none⟩)) rfl (fun u _ => exec_mv rfl rfl) ?_
  simp only [Act.put, List.setIfInBounds_toArray, List.set_cons_succ, List.set_cons_zero]
  refine wpOrd_yield (v := .pointer (some ⟨g, 0, none⟩)) rfl (fun u _ => by go_simp) ?_
  simp only [Act.put, List.setIfInBounds_toArray, List.set_cons_succ, List.set_cons_zero]
  refine wpOrd_yield (v := .pointer (some ⟨g, 2, none⟩)) rfl (fun u _ => by go_simp) ?_
  simp only [Act.put, List.setIfInBounds_toArray, List.set_cons_succ, List.set_cons_zero]
  refine wpOrd_yield (v := .slice pv N cv) rfl (fun u hu => by have := hu; go_simp) ?_
  simp only [Act.put, List.setIfInBounds_toArray, List.set_cons_succ, List.set_cons_zero]
  refine wpOrd_yield (v := .int .i64 (N : Int)) rfl (fun u _ => by go_simp) ?_
  simp only [Act.put, List.setIfInBounds_toArray, List.set_cons_succ, List.set_cons_zero]
  refine wpOrd_call rfl 29 _ _ rfl Try.call29 [.pointer (some ⟨K.c, 0, none⟩)] rfl ?_
  refine k3.mono ?_
  rintro e Y3 ⟨rfl, hY3⟩
  subst hY3
  refine ⟨_, rfl, d2, ?_⟩
  simp only [Act.put, List.setIfInBounds_toArray, List.set_cons_succ, List.set_cons_zero]
  refine wpOrd_yield (v := .bool true) rfl (fun u _ => by have := el; go_simp) ?_
  simp only [Act.put, List.setIfInBounds_toArray, List.set_cons_succ, List.set_cons_zero]
  refine wpOrd_yield (v := .bool true) rfl (fun u _ => by go_simp) ?_
  simp only [Act.put, List.setIfInBounds_toArray, List.set_cons_succ, List.set_cons_zero]
  refine wpOrd_yield (v := .bool true) rfl (fun u _ => by go_simp) ?_
  simp only [Act.put, List.setIfInBounds_toArray, List.set_cons_succ, List.set_cons_zero]
  refine wpOrd_nil ?_
  clear k1 k2 k3
  go_wp2
  go_ret
  exact ⟨rfl, _, _, _, HFF.out⟩
end Go.Proofs.Ytencclpcebpgmaa
/- One kind of step with the second cache (4), of both sides: the same answer, and they stand alike behind it; no condition but the counts' bounds. -/
namespace Go.Proofs.Ytencclpcebpgmaa
open Go.RowKit Go.Maps
set_option linter.unusedVariables false
set_option maxRecDepth 20000 in
set_option maxHeartbeats 4000000 in
theorem asq_4 {w W : World} {gx d dr c g n : Nat} {c1 w1 : Value} {s : CSt} {t : St} {u : RD} {i : Nat} {l : List Part} (h : AskT w W gx d dr c g n c1 w1 s t u i l) (hi : i < 1000000) (dd sc at_ fl : Value) (hd : dd = .int .u8 4) (A : Int) (ha : at_ = .int .i64 A) (F : Int) (hf : fl = .int .u16 F) (hF : 0 ≤ F ∧ F < 65536) :
    Calls Try.prog 14 #[.pointer (some ⟨gx, 0, none⟩), .agg #[dd, sc, at_, fl], .int .i64 1] W fun e W' => e = .returned (.bool true) ∧ ∃ s' t' u', AskT w W' gx d dr c g n c1 w1 s' t' u' (i + 1) l := by
  subst hd ha hf
  obtain ⟨K, L, R, v, vl, vk, T1, T2, rfl, rfl, rfl, hM, hC, hT, h0⟩ := h
  have HM : Hid (Mate t n u) := hM
  have HC : Hid (Cn t i) := hC
  have HT : Hid (Told T1 T2 i) := hT
  have hcd : CD W K L s t := h0.head
  have hok := hcd.cache.ok
  have hrow : s.row.length ≤ 1000000 := by have := hok.size; have := hok.len; omega
  have HOk : Hid (COk s) := hok
  have HDk : Hid (Ok t) := hcd.disk.ok
  have hroom : Room t := hC.room (by omega)
  have S1 := sep_box h0 #[.int .u8 4, sc, .int .i64 A, .int .u16 F] 46
  have hr : (W.alloc (.cells #[.int .u8 4, sc, .int .i64 A, .int .u16 F] 46)).heap[W.heap.size]? = some (.cells #[.int .u8 4, sc, .int .i64 A, .int .u16 F] 46) := heap_alloc_new _ _
  have HS1 := (show Hid _ from S1)
  have e0 : (W.alloc (.cells #[.int .u8 4, sc, .int .i64 A, .int .u16 F] 46)).cell? ⟨W.heap.size, 0, none⟩ = some (.int .u8 4) := Joins.cell_of_block hr 0
  have e2 : (W.alloc (.cells #[.int .u8 4, sc, .int .i64 A, .int .u16 F] 46)).cell? ⟨W.heap.size, 2, none⟩ = some (.int .i64 A) := Joins.cell_of_block hr 2
  have e3 : (W.alloc (.cells #[.int .u8 4, sc, .int .i64 A, .int .u16 F] 46)).cell? ⟨W.heap.size, 3, none⟩ = some (.int .u16 F) := Joins.cell_of_block hr 3
  have hx := S1.say (bxP gx (xRo2 L.d R.g K.c g c1 w1 vl vk) 36) (by simp)
  have x2 : (W.alloc (.cells #[.int .u8 4, sc, .int .i64 A, .int .u16 F] 46)).cell? ⟨gx, 3, none⟩ = some (.pointer (some ⟨K.c, 0, none⟩)) := Joins.cell_of_block hx 3
  have x4 : (W.alloc (.cells #[.int .u8 4, sc, .int .i64 A, .int .u16 F] 46)).cell? ⟨gx, 5, none⟩ = some (.pointer (some ⟨g, 0, none⟩)) := Joins.cell_of_block hx 5
  clear h0 hM hC hT hcd hok S1 hr hx
  go_enter Try.func14, Try.ntmps14
  go_upto_region 1 with fail
  generalize W.alloc (.cells #[.int .u8 4, sc, .int .i64 A, .int .u16 F] 46) = X at *
  generalize W.heap.size = B at *
  have z25 := zero25
  have q1 : CD X K L s t := HS1.out.say (pcP K L s t) (by simp)
  have k1 := order_of q1.cache
  have hol : (ordV s.row).length = s.row.length := by simp [ordV]
  have hrw : (ordV s.row).length ≤ 4096 := by have := HOk.out.size; have := HOk.out.len; omega
  clear q1 hol
  go_wp2_with (first | (go_at_call 31; fail))
  refine k1.mono ?_
  rintro e Y1 ⟨v1, rfl, o1, hb1⟩
  obtain ⟨p1, cp1, rfl, i1, _, _⟩ := ints_of_row o1
  rw [← flat_int] at o1
  have y1 := sep_list (en := enW) (e := 3) (sz := 1) (x := ⟨p1, cp1, ordV s.row⟩) HS1.out hb1 o1
  have HY1 := (show Hid _ from y1)
  have q2 : RPr Y1 g R v n s u := y1.say (rcP g R v n s u) (by simp)
  have k2 := order6 q2.c hrow
  clear k1 o1 i1 y1 q2 hb1 HS1
  go_wp2_with (first | (go_at_call 19; fail))
  refine k2.mono ?_
  rintro e Y2 ⟨v2, rfl, o2, hb2⟩
  obtain ⟨p2, cp2, rfl, i2, _, _⟩ := ints_of_row o2
  rw [← flat_int] at o2
  have y2 := pm1 (sep_list (en := enW) (e := 3) (sz := 1) (x := ⟨p2, cp2, ordV s.row⟩) HY1.out hb2 o2)
  obtain ⟨i1', hi1, hy0, hy1, hy2⟩ := info_parts infW54
  have hT1 := HT.out.len
  have hT2 : T2.length ≤ i := by have h1 := congrArg List.length HT.out.same; simp only [List.length_map] at h1; omega
  obtain ⟨p3, c3, W3, hr1, y3⟩ := sep_tell (st := 34) Try.underlying34 hi1 hy0 hy1 hy2 (by decide) y2 (by omega) 34
  have y4 := pm2 y3
  have y5 := sep_setBox y4 6 (.slice p3 (T1.length + 1) c3)
  have y6 := pm3 y5
  obtain ⟨p4, c4, W5, hr2, y7⟩ := sep_tell (st := 34) Try.underlying34 hi1 hy0 hy1 hy2 (by decide) y6 (by omega) 34
  have y8 := pm4 y7
  have y9 := sep_setBox y8 7 (.slice p4 (T2.length + 1) c4)
  have y10 := pm5 y9
  have hx2 := y2.say (bxP gx (xRo2 L.d R.g K.c g c1 w1 vl vk) 36) (by simp)
  have g6 : Y2.cell? ⟨gx, 6, none⟩ = some vl := Joins.cell_of_block hx2 6
  have f6 : W3.frozen? ⟨gx, 6, none⟩ = false := Joins.unfrozen_of_block y4.head 6
  have k6 : W3.cell? ⟨gx, 6, none⟩ = some vl := Joins.cell_of_block (show W3.heap[gx]? = some (.cells (xRo2 L.d R.g K.c g c1 w1 vl vk) 36) from y4.head) 6
  have hx5 : (W3.setCell ⟨gx, 6, none⟩ (.slice p3 (T1.length + 1) c3)).heap[gx]? = some (.cells (xRo2 L.d R.g K.c g c1 w1 (.slice p3 (T1.length + 1) c3) vk) 36) := y5.head
  have g7 : (W3.setCell ⟨gx, 6, none⟩ (.slice p3 (T1.length + 1) c3)).cell? ⟨gx, 7, none⟩ = some vk := Joins.cell_of_block hx5 7
  have f7 : W5.frozen? ⟨gx, 7, none⟩ = false := Joins.unfrozen_of_block y8.head 7
  have k7 : W5.cell? ⟨gx, 7, none⟩ = some vk := Joins.cell_of_block (show W5.heap[gx]? = some (.cells (xRo2 L.d R.g K.c g c1 w1 (.slice p3 (T1.length + 1) c3) vk) 36) from y8.head) 7
  obtain ⟨pl, cl, hvl, _⟩ := own_slice (show Bk enW 3 54 1 vl T1 Y2 from y2.say (bkP enW 3 54 1 vl T1) (by simp)).row
  obtain ⟨pk, ck, hvk, _⟩ := own_slice (show Bk enW 3 54 1 vk T2 Y2 from y2.say (bkP enW 3 54 1 vk T2) (by simp)).row
  have HFF : Hid (AskT w ((W5.setCell ⟨gx, 7, none⟩ (.slice p4 (T2.length + 1) c4))) gx L.d R.g K.c g n c1 w1 s t u (i + 1) l) := by
    refine ⟨K, L, R, v, .slice p3 (T1.length + 1) c3, .slice p4 (T2.length + 1) c4, _, _, rfl, rfl, rfl, HM.out, HC.out.more, ⟨?_, ?_, ?_⟩, y10.drop⟩
    · rw [List.map_append, List.map_append, HT.out.same]
      rfl
    · rw [List.length_append]
      simp only [List.length_singleton]
      omega
    · intro x hx
      rcases List.mem_append.1 hx with hx | hx
      · exact HT.out.each x hx
      · rw [List.mem_singleton.1 hx]
        exact hrw
  have hfin : Below w.heap.size w (W5.setCell ⟨gx, 7, none⟩ (.slice p4 (T2.length + 1) c4)) := y10.below
  have b1 := y10.say (bkP enW 3 54 1 (.slice p3 (T1.length + 1) c3) (T1 ++ [⟨p1, cp1, ordV s.row⟩])) (by simp)
  have b2 := y10.say (bkP enW 3 54 1 (.slice p4 (T2.length + 1) c4) (T2 ++ [⟨p2, cp2, ordV s.row⟩])) (by simp)
  have j1 : IntsAt _ p1 (ordV s.row) := tl_ints (Bk.own b1 ⟨p1, cp1, ordV s.row⟩ (by simp))
  have j2 : IntsAt _ p2 (ordV s.row) := tl_ints (Bk.own b2 ⟨p2, cp2, ordV s.row⟩ (by simp))
  have hsm := sameInts_any (ordV s.row) (ordV s.row) p1 p2 cp1 cp2 _ (by omega) j1 j2
  have hfl : ∀ V, Below (W5.setCell ⟨gx, 7, none⟩ (.slice p4 (T2.length + 1) c4)).heap.size (W5.setCell ⟨gx, 7, none⟩ (.slice p4 (T2.length + 1) c4)) V → AskT w V gx L.d R.g K.c g n c1 w1 s t u (i + 1) l := fun V hb => by
    obtain ⟨K0, L0, R0, v0, a0, b0, A1, A2, r1, r2, r3, r4, r5, r6, r7⟩ := HFF.out
    exact ⟨K0, L0, R0, v0, a0, b0, A1, A2, r1, r2, r3, r4, r5, r6, r7.later hb⟩
  have HFL := (show Hid _ from hfl)
  simp only [decide_true] at hsm
  subst hvl hvk
  have HR1 : Hid ((Builtin.append_ #[34, 34] 34 #[.slice pl T1.length cl, .slice (some ⟨Y2.heap.size, 0, none⟩) 1 1]).run Try.prog (Y2.alloc (.cells #[.slice p1 (ordV s.row).length cp1] 54)) = .ok (.slice p3 (T1.length + 1) c3) W3) := hr1
  have HR2 : Hid ((Builtin.append_ #[34, 34] 34 #[.slice pk T2.length ck, .slice (some ⟨(W3.setCell ⟨gx, 6, none⟩ (.slice p3 (T1.length + 1) c3)).heap.size, 0, none⟩) 1 1]).run Try.prog ((W3.setCell ⟨gx, 6, none⟩ (.slice p3 (T1.length + 1) c3)).alloc (.cells #[.slice p2 (ordV s.row).length cp2] 54)) = .ok (.slice p4 (T2.length + 1) c4) W5) := hr2
  clear y2 y3 y4 y5 y6 y7 y8 y9 y10 hr1 hr2 hx2 hx5 b1 b2 j1 j2 hfl hfin HFF k2 o2 i2 hb2 HY1
  generalize (ordV s.row).length = NN at *
  go_upto_region 18 with (at_builtin; refine wpList_exec rfl (exec_push rfl rfl rfl HR1.out) ?_)
  clear f6 k6 g6 HR1
  generalize W3.setCell ⟨gx, 6, none⟩ (.slice p3 (T1.length + 1) c3) = W4 at *
  go_upto_region 19 with (at_builtin; refine wpList_exec rfl (exec_push rfl rfl rfl HR2.out) ?_)
  clear f7 k7 g7 HR2
  generalize W5.setCell ⟨gx, 7, none⟩ (.slice p4 (T2.length + 1) c4) = W6 at *
  go_wp2_with (first | (go_at_call 30; fail))
  refine hsm.mono ?_
  rintro e Z ⟨rfl, hbZ⟩
  have HZ := (show Hid _ from HFL.out Z hbZ)
  clear hbZ hsm HFL
  go_wp2
  go_ret
  exact ⟨rfl, _, _, _, HZ.out⟩
end Go.Proofs.Ytencclpcebpgmaa
/- One kind of step with the second cache (x), of both sides: the same answer, and they stand alike behind it; no condition but the counts' bounds. -/
namespace Go.Proofs.Ytencclpcebpgmaa
open Go.RowKit Go.Maps
set_option linter.unusedVariables false
set_option maxRecDepth 20000 in
set_option maxHeartbeats 4000000 in
theorem asq_x {w W : World} {gx d dr c g n : Nat} {c1 w1 : Value} {s : CSt} {t : St} {u : RD} {i : Nat} {l : List Part} (h : AskT w W gx d dr c g n c1 w1 s t u i l) (hi : i < 1000000) (dd sc at_ fl : Value) (o : Int) (hd : dd = .int .u8 o) (m0 : ¬ o = 0) (m1 : ¬ o = 1) (m2 : ¬ o = 2) (m3 : ¬ o = 3) (m4 : ¬ o = 4) (A : Int) (ha : at_ = .int .i64 A) (F : Int) (hf : fl = .int .u16 F) (hF : 0 ≤ F ∧ F < 65536) :
    Calls Try.prog 14 #[.pointer (some ⟨gx, 0, none⟩), .agg #[dd, sc, at_, fl], .int .i64 1] W fun e W' => e = .returned (.bool true) ∧ ∃ s' t' u', AskT w W' gx d dr c g n c1 w1 s' t' u' (i + 1) l := by
  subst hd ha hf
  obtain ⟨K, L, R, v, vl, vk, T1, T2, rfl, rfl, rfl, hM, hC, hT, h0⟩ := h
  have HM : Hid (Mate t n u) := hM
  have HC : Hid (Cn t i) := hC
  have HT : Hid (Told T1 T2 i) := hT
  have hcd : CD W K L s t := h0.head
  have hok := hcd.cache.ok
  have hrow : s.row.length ≤ 1000000 := by have := hok.size; have := hok.len; omega
  have HOk : Hid (COk s) := hok
  have HDk : Hid (Ok t) := hcd.disk.ok
  have hroom : Room t := hC.room (by omega)
  have S1 := sep_box h0 #[.int .u8 o, sc, .int .i64 A, .int .u16 F] 46
  have hr : (W.alloc (.cells #[.int .u8 o, sc, .int .i64 A, .int .u16 F] 46)).heap[W.heap.size]? = some (.cells #[.int .u8 o, sc, .int .i64 A, .int .u16 F] 46) := heap_alloc_new _ _
  have HS1 := (show Hid _ from S1)
  have e0 : (W.alloc (.cells #[.int .u8 o, sc, .int .i64 A, .int .u16 F] 46)).cell? ⟨W.heap.size, 0, none⟩ = some (.int .u8 o) := Joins.cell_of_block hr 0
  have e2 : (W.alloc (.cells #[.int .u8 o, sc, .int .i64 A, .int .u16 F] 46)).cell? ⟨W.heap.size, 2, none⟩ = some (.int .i64 A) := Joins.cell_of_block hr 2
  have e3 : (W.alloc (.cells #[.int .u8 o, sc, .int .i64 A, .int .u16 F] 46)).cell? ⟨W.heap.size, 3, none⟩ = some (.int .u16 F) := Joins.cell_of_block hr 3
  have hx := S1.say (bxP gx (xRo2 L.d R.g K.c g c1 w1 vl vk) 36) (by simp)
  have x2 : (W.alloc (.cells #[.int .u8 o, sc, .int .i64 A, .int .u16 F] 46)).cell? ⟨gx, 3, none⟩ = some (.pointer (some ⟨K.c, 0, none⟩)) := Joins.cell_of_block hx 3
  have x4 : (W.alloc (.cells #[.int .u8 o, sc, .int .i64 A, .int .u16 F] 46)).cell? ⟨gx, 5, none⟩ = some (.pointer (some ⟨g, 0, none⟩)) := Joins.cell_of_block hx 5
  clear h0 hM hC hT hcd hok S1 hr hx
  go_enter Try.func14, Try.ntmps14
  go_upto_region 1 with fail
  generalize W.alloc (.cells #[.int .u8 o, sc, .int .i64 A, .int .u16 F] 46) = X at *
  generalize W.heap.size = B at *
  have z25 := zero25
  have n0 : (o == 0) = false := by simpa using m0
  have n1 : (o == 1) = false := by simpa using m1
  have n2 : (o == 2) = false := by simpa using m2
  have n3 : (o == 3) = false := by simpa using m3
  have n4 : (o == 4) = false := by simpa using m4
  have HFF : Hid (AskT w X gx L.d R.g K.c g n c1 w1 s t u (i + 1) l) := ⟨K, L, R, v, vl, vk, T1, T2, rfl, rfl, rfl, HM.out, HC.out.more, HT.out.more, HS1.out.drop⟩
  clear m0 m1 m2 m3 m4 HS1
  go_wp2
  go_ret
  exact ⟨rfl, _, _, _, HFF.out⟩
end Go.Proofs.Ytencclpcebpgmaa
