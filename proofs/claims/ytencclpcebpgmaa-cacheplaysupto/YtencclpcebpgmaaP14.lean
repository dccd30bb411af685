/- Several texts joined, each with its own remark; no condition. -/
import Derived.Test.YtencclpcebpgmaaP12
import Derived.Test.YtencclpcebpgmaaP13
import Derived.Test.YtencclpcebpgmaaP7
/- One kind of step with a cache (1), of both sides: the same answer, and they stand alike behind it; no condition but the counts' bounds. -/
namespace Go.Proofs.Ytencclpcebpgmaa
open Go.RowKit Go.Maps
set_option linter.unusedVariables false
set_option maxRecDepth 20000 in
set_option maxHeartbeats 4000000 in
theorem ask_1 {w W : World} {gx d dr c g n : Nat} {c1 w1 : Value} {s : CSt} {t : St} {u : RD} {i : Nat} {l : List Part} (h : AskS w W gx d dr c g n c1 w1 s t u i l) (hi : i < 1000000) (dd sc at_ fl : Value) (hd : dd = .int .u8 1) (A : Int) (ha : at_ = .int .i64 A) (F : Int) (hf : fl = .int .u16 F) (hF : 0 ≤ F ∧ F < 65536) :
    Calls Try.prog 14 #[.pointer (some ⟨gx, 0, none⟩), .agg #[dd, sc, at_, fl], .int .i64 0] W fun e W' => e = .returned (.bool true) ∧ ∃ s' t' u', AskS w W' gx d dr c g n c1 w1 s' t' u' (i + 1) l := by
  subst hd ha hf
  obtain ⟨K, L, R, v, vl, vk, T1, T2, rfl, rfl, rfl, hM, hC, hT, h0⟩ := h
  have HM : Hid (Mate t n u) := hM
  have HC : Hid (Cn t i) := hC
  have HT : Hid (Told T1 T2 i) := hT
  have hcd : CD W K L s t := h0.head
  have hok := hcd.cache.ok
  have hrow : s.row.length ≤ 1000000 := by have := hok.size; have := hok.len; omega
  have HOk : Hid (COk s) := hok
  have HDk : Hid (Ok t) := hcd.disk.ok
  have hroom : Room t := hC.room (by omega)
  have S1 := sep_box h0 #[.int .u8 1, sc, .int .i64 A, .int .u16 F] 46
  have hr : (W.alloc (.cells #[.int .u8 1, sc, .int .i64 A, .int .u16 F] 46)).heap[W.heap.size]? = some (.cells #[.int .u8 1, sc, .int .i64 A, .int .u16 F] 46) := heap_alloc_new _ _
  have HS1 := (show Hid _ from S1)
  have e0 : (W.alloc (.cells #[.int .u8 1, sc, .int .i64 A, .int .u16 F] 46)).cell? ⟨W.heap.size, 0, none⟩ = some (.int .u8 1) := Joins.cell_of_block hr 0
  have e2 : (W.alloc (.cells #[.int .u8 1, sc, .int .i64 A, .int .u16 F] 46)).cell? ⟨W.heap.size, 2, none⟩ = some (.int .i64 A) := Joins.cell_of_block hr 2
  have e3 : (W.alloc (.cells #[.int .u8 1, sc, .int .i64 A, .int .u16 F] 46)).cell? ⟨W.heap.size, 3, none⟩ = some (.int .u16 F) := Joins.cell_of_block hr 3
  have hx := S1.say (bxP gx (xRow L.d R.g K.c g c1 w1 vl vk) 36) (by simp)
  have x2 : (W.alloc (.cells #[.int .u8 1, sc, .int .i64 A, .int .u16 F] 46)).cell? ⟨gx, 2, none⟩ = some (.pointer (some ⟨K.c, 0, none⟩)) := Joins.cell_of_block hx 2
  have x4 : (W.alloc (.cells #[.int .u8 1, sc, .int .i64 A, .int .u16 F] 46)).cell? ⟨gx, 4, none⟩ = some (.pointer (some ⟨g, 0, none⟩)) := Joins.cell_of_block hx 4
  clear h0 hM hC hT hcd hok S1 hr hx
  go_enter Try.func14, Try.ntmps14
  go_upto_region 1 with fail
  generalize W.alloc (.cells #[.int .u8 1, sc, .int .i64 A, .int .u16 F] 46) = X at *
  generalize W.heap.size = B at *
  have z25 := zero25
  have HS2 := (show Hid _ from (Sep.later HS1.out (belowN (Below.refl _ _) 1)).swap)
  have d2 : X.drew.cell? ⟨B, 2, none⟩ = some (.int .i64 A) := e2
  have d3 : X.drew.cell? ⟨B, 3, none⟩ = some (.int .u16 F) := e3
  go_wp2
  refine wp_region_ord (S := fun u => u.cell? ⟨B, 2, none⟩ = some (.int .i64 A) ∧ u.cell? ⟨B, 3, none⟩ = some (.int .u16 F)) [(0, true), (1, true), (2, true), (3, true), (4, true), (7, true), (8, true), (9, true), (10, true), (11, true), (5, false), (6, false), (12, false), (13, false), (14, true), (15, true)] (by kernel_rfl) rfl (by kernel_rfl) (fun d _ _ _ _ h => by cases d <;> exact h) ⟨d2, d3⟩ ?_
  simp only [inOrd, List.getElem?_cons_zero, List.getElem?_cons_succ]
  refine wpOrd_yield (v := .pointer (some ⟨K.c, 0, none⟩)) rfl (fun u _ => exec_mv rfl rfl) ?_
  simp only [Act.put, List.setIfInBounds_toArray, List.set_cons_succ, List.set_cons_zero]
  refine wpOrd_yield (v := .pointer (some ⟨B, 2, none⟩)) rfl (fun u _ => by go_simp) ?_
  simp only [Act.put, List.setIfInBounds_toArray, List.set_cons_succ, List.set_cons_zero]
  refine wpOrd_yield (v := .int .i64 A) rfl (fun u hu => by have := hu.1; go_simp) ?_
  simp only [Act.put, List.setIfInBounds_toArray, List.set_cons_succ, List.set_cons_zero]
  refine wpOrd_yield (v := .pointer (some ⟨B, 3, none⟩)) rfl (fun u _ => by go_simp) ?_
  simp only [Act.put, List.setIfInBounds_toArray, List.set_cons_succ, List.set_cons_zero]
  refine wpOrd_yield (v := .int .u16 F) rfl (fun u hu => by have := hu.2; go_simp) ?_
  simp only [Act.put, List.setIfInBounds_toArray, List.set_cons_succ, List.set_cons_zero]
  refine wpOrd_yield (v := .pointer (some ⟨g, 0, none⟩)) rfl (fun u _ => exec_mv rfl rfl) ?_
  simp only [Act.put, List.setIfInBounds_toArray, List.set_cons_succ, List.set_cons_zero]
  refine wpOrd_yield (v := .pointer (some ⟨B, 2, none⟩)) rfl (fun u _ => by go_simp) ?_
  simp only [Act.put, List.setIfInBounds_toArray, List.set_cons_succ, List.set_cons_zero]
  refine wpOrd_yield (v := .int .i64 A) rfl (fun u hu => by have := hu.1; go_simp) ?_
  simp only [Act.put, List.setIfInBounds_toArray, List.set_cons_succ, List.set_cons_zero]
  refine wpOrd_yield (v := .pointer (some ⟨B, 3, none⟩)) rfl (fun u _ => by go_simp) ?_
  simp only [Act.put, List.setIfInBounds_toArray, List.set_cons_succ, List.set_cons_zero]
  refine wpOrd_yield (v := .int .u16 F) rfl (fun u hu => by have := hu.2; go_simp) ?_
  simp only [Act.put, List.setIfInBounds_toArray, List.set_cons_succ, List.set_cons_zero]
  have hfa := fill_any F hF
  have hcan := fill_can F hF
  generalize fillF F = f1 at *
  refine wpOrd_call rfl 35 _ _ rfl Try.call35 [.int .u16 F] rfl ?_
  refine (hfa _).mono ?_
  rintro e Y0 ⟨rfl, hb0⟩
  have y0 := Sep.later HS2.out hb0
  refine ⟨_, rfl, ⟨Joins.cell_of_block (y0.say (bxP B #[.int .u8 1, sc, .int .i64 A, .int .u16 F] 46) (by simp)) 2, Joins.cell_of_block (y0.say (bxP B #[.int .u8 1, sc, .int .i64 A, .int .u16 F] 46) (by simp)) 3⟩, ?_⟩
  simp only [Act.put, List.setIfInBounds_toArray, List.set_cons_succ, List.set_cons_zero]
  refine wpOrd_call rfl 25 _ _ rfl Try.call25 [.pointer (some ⟨K.c, 0, none⟩), .int .i64 A, .agg (blk f1)] rfl ?_
  refine (sep_pput y0 A hcan).mono ?_
  rintro e Y1 ⟨rfl, K', L', hcK, hdL, y1⟩
  refine ⟨_, rfl, ⟨Joins.cell_of_block (y1.say (bxP B #[.int .u8 1, sc, .int .i64 A, .int .u16 F] 46) (by simp)) 2, Joins.cell_of_block (y1.say (bxP B #[.int .u8 1, sc, .int .i64 A, .int .u16 F] 46) (by simp)) 3⟩, ?_⟩
  simp only [Act.put, List.setIfInBounds_toArray, List.set_cons_succ, List.set_cons_zero]
  refine wpOrd_call rfl 35 _ _ rfl Try.call35 [.int .u16 F] rfl ?_
  refine (hfa _).mono ?_
  rintro e Y2 ⟨rfl, hb2⟩
  have y2 := Sep.third (Sep.later y1 hb2)
  refine ⟨_, rfl, ⟨Joins.cell_of_block (y2.say (bxP B #[.int .u8 1, sc, .int .i64 A, .int .u16 F] 46) (by simp)) 2, Joins.cell_of_block (y2.say (bxP B #[.int .u8 1, sc, .int .i64 A, .int .u16 F] 46) (by simp)) 3⟩, ?_⟩
  simp only [Act.put, List.setIfInBounds_toArray, List.set_cons_succ, List.set_cons_zero]
  refine wpOrd_call rfl 45 _ _ rfl Try.call45 [.pointer (some ⟨g, 0, none⟩), .int .i64 A, .agg (blk f1)] rfl ?_
  refine (sep_rput y2 hrow A f1).mono ?_
  rw [HM.out.uE, HM.out.ptC]
  rintro e Y3 ⟨rfl, v', y3⟩
  refine ⟨_, rfl, ⟨Joins.cell_of_block (y3.say (bxP B #[.int .u8 1, sc, .int .i64 A, .int .u16 F] 46) (by simp)) 2, Joins.cell_of_block (y3.say (bxP B #[.int .u8 1, sc, .int .i64 A, .int .u16 F] 46) (by simp)) 3⟩, ?_⟩
  simp only [Act.put, List.setIfInBounds_toArray, List.set_cons_succ, List.set_cons_zero]
  have HFF : Hid (AskS w Y3 gx L.d R.g K.c g n c1 w1 (putC s t A f1) t u (i + 1) l) := ⟨K', L', R, v', vl, vk, T1, T2, hcK, hdL, rfl, HM.out, HC.out.more, HT.out.more, (Sep.third y3).drop.swap⟩
  have hee : (usedE s t A == usedE s t A) = true := by simp
  clear y0 y1 y2 y3 hb0 hb2
  generalize usedE s t A = eU at *
  refine wpOrd_yield (v := .bool true) rfl (fun u _ => by have := hee; go_simp) ?_
  simp only [Act.put, List.setIfInBounds_toArray, List.set_cons_succ, List.set_cons_zero]
  refine wpOrd_yield (v := .bool true) rfl (fun u _ => by go_simp) ?_
  simp only [Act.put, List.setIfInBounds_toArray, List.set_cons_succ, List.set_cons_zero]
  refine wpOrd_nil ?_
  go_wp2
  go_ret
  exact ⟨rfl, _, _, _, HFF.out⟩
end Go.Proofs.Ytencclpcebpgmaa
/- One kind of step with a cache (2), of both sides: the same answer, and they stand alike behind it; no condition but the counts' bounds. -/
namespace Go.Proofs.Ytencclpcebpgmaa
open Go.RowKit Go.Maps
set_option linter.unusedVariables false
set_option maxRecDepth 20000 in
set_option maxHeartbeats 4000000 in
theorem ask_2 {w W : World} {gx d dr c g n : Nat} {c1 w1 : Value} {s : CSt} {t : St} {u : RD} {i : Nat} {l : List Part} (h : AskS w W gx d dr c g n c1 w1 s t u i l) (hi : i < 1000000) (dd sc at_ fl : Value) (hd : dd = .int .u8 2) (A : Int) (ha : at_ = .int .i64 A) (F : Int) (hf : fl = .int .u16 F) (hF : 0 ≤ F ∧ F < 65536) :
    Calls Try.prog 14 #[.pointer (some ⟨gx, 0, none⟩), .agg #[dd, sc, at_, fl], .int .i64 0] W fun e W' => e = .returned (.bool true) ∧ ∃ s' t' u', AskS w W' gx d dr c g n c1 w1 s' t' u' (i + 1) l := by
  subst hd ha hf
  obtain ⟨K, L, R, v, vl, vk, T1, T2, rfl, rfl, rfl, hM, hC, hT, h0⟩ := h
  have HM : Hid (Mate t n u) := hM
  have HC : Hid (Cn t i) := hC
  have HT : Hid (Told T1 T2 i) := hT
  have hcd : CD W K L s t := h0.head
  have hok := hcd.cache.ok
  have hrow : s.row.length ≤ 1000000 := by have := hok.size; have := hok.len; omega
  have HOk : Hid (COk s) := hok
  have HDk : Hid (Ok t) := hcd.disk.ok
  have hroom : Room t := hC.room (by omega)
  have S1 := sep_box h0 #[.int .u8 2, sc, .int .i64 A, .int .u16 F] 46
  have hr : (W.alloc (.cells #[.int .u8 2, sc, .int .i64 A, .int .u16 F] 46)).heap[W.heap.size]? = some (.cells #[.int .u8 2, sc, .int .i64 A, .int .u16 F] 46) := heap_alloc_new _ _
  have HS1 := (show Hid _ from S1)
  have e0 : (W.alloc (.cells #[.int .u8 2, sc, .int .i64 A, .int .u16 F] 46)).cell? ⟨W.heap.size, 0, none⟩ = some (.int .u8 2) := Joins.cell_of_block hr 0
  have e2 : (W.alloc (.cells #[.int .u8 2, sc, .int .i64 A, .int .u16 F] 46)).cell? ⟨W.heap.size, 2, none⟩ = some (.int .i64 A) := Joins.cell_of_block hr 2
  have e3 : (W.alloc (.cells #[.int .u8 2, sc, .int .i64 A, .int .u16 F] 46)).cell? ⟨W.heap.size, 3, none⟩ = some (.int .u16 F) := Joins.cell_of_block hr 3
  have hx := S1.say (bxP gx (xRow L.d R.g K.c g c1 w1 vl vk) 36) (by simp)
  have x2 : (W.alloc (.cells #[.int .u8 2, sc, .int .i64 A, .int .u16 F] 46)).cell? ⟨gx, 2, none⟩ = some (.pointer (some ⟨K.c, 0, none⟩)) := Joins.cell_of_block hx 2
  have x4 : (W.alloc (.cells #[.int .u8 2, sc, .int .i64 A, .int .u16 F] 46)).cell? ⟨gx, 4, none⟩ = some (.pointer (some ⟨g, 0, none⟩)) := Joins.cell_of_block hx 4
  clear h0 hM hC hT hcd hok S1 hr hx
  go_enter Try.func14, Try.ntmps14
  go_upto_region 1 with fail
  generalize W.alloc (.cells #[.int .u8 2, sc, .int .i64 A, .int .u16 F] 46) = X at *
  generalize W.heap.size = B at *
  have z25 := zero25
  have HS2 := (show Hid _ from (Sep.later HS1.out (belowN (Below.refl _ _) 1)).swap)
  have d2 : X.drew.cell? ⟨B, 2, none⟩ = some (.int .i64 A) := e2
  go_wp2
  refine wp_region_ord (S := fun u => u.cell? ⟨B, 2, none⟩ = some (.int .i64 A)) [(0, true), (1, true), (2, true), (4, true), (5, true), (6, true), (3, false), (7, false), (8, true), (9, true)] (by kernel_rfl) rfl (by kernel_rfl) (fun d _ _ _ _ h => by cases d <;> exact h) d2 ?_
  simp only [inOrd, List.getElem?_cons_zero, List.getElem?_cons_succ]
  refine wpOrd_yield (v := .pointer (some ⟨K.c, 0, none⟩)) rfl (fun u _ => exec_mv rfl rfl) ?_
  simp only [Act.put, List.setIfInBounds_toArray, List.set_cons_succ, List.set_cons_zero]
  refine wpOrd_yield (v := .pointer (some ⟨B, 2, none⟩)) rfl (fun u _ => by go_simp) ?_
  simp only [Act.put, List.setIfInBounds_toArray, List.set_cons_succ, List.set_cons_zero]
  refine wpOrd_yield (v := .int .i64 A) rfl (fun u hu => by have := hu; go_simp) ?_
  simp only [Act.put, List.setIfInBounds_toArray, List.set_cons_succ, List.set_cons_zero]
  refine wpOrd_yield (v := .pointer (some ⟨g, 0, none⟩)) rfl (fun u _ => exec_mv rfl rfl) ?_
  simp only [Act.put, List.setIfInBounds_toArray, List.set_cons_succ, List.set_cons_zero]
  refine wpOrd_yield (v := .pointer (some ⟨B, 2, none⟩)) rfl (fun u _ => by go_simp) ?_
  simp only [Act.put, List.setIfInBounds_toArray, List.set_cons_succ, List.set_cons_zero]
  refine wpOrd_yield (v := .int .i64 A) rfl (fun u hu => by have := hu; go_simp) ?_
  simp only [Act.put, List.setIfInBounds_toArray, List.set_cons_succ, List.set_cons_zero]
  refine wpOrd_call rfl 26 _ _ rfl Try.call26 [.pointer (some ⟨K.c, 0, none⟩), .int .i64 A] rfl ?_
  refine (sep_pflush HS2.out hroom A).mono ?_
  rintro e Y1 ⟨rfl, K', L', hcK, hdL, y1⟩
  refine ⟨_, rfl, Joins.cell_of_block (y1.say (bxP B #[.int .u8 2, sc, .int .i64 A, .int .u16 F] 46) (by simp)) 2, ?_⟩
  simp only [Act.put, List.setIfInBounds_toArray, List.set_cons_succ, List.set_cons_zero]
  have y2 := Sep.third y1
  refine wpOrd_call rfl 46 _ _ rfl Try.call46 [.pointer (some ⟨g, 0, none⟩), .int .i64 A] rfl ?_
  refine (sep_rflush y2 hrow (HM.out.small HC.out (by omega) HDk.out) HOk.out.nodup A).mono ?_
  rw [HM.out.flE, HM.out.flC]
  rintro e Y3 ⟨rfl, y3⟩
  refine ⟨_, rfl, Joins.cell_of_block (y3.say (bxP B #[.int .u8 2, sc, .int .i64 A, .int .u16 F] 46) (by simp)) 2, ?_⟩
  simp only [Act.put, List.setIfInBounds_toArray, List.set_cons_succ, List.set_cons_zero]
  have HFF : Hid (AskS w Y3 gx L.d R.g K.c g n c1 w1 (flushC s t A) (flushD s t A) (flD n s u A) (i + 1) l) := ⟨K', L', R, v, vl, vk, T1, T2, hcK, hdL, rfl, HM.out.flD HDk.out.fuse.1 A, HC.out.flush s A, HT.out.more, (Sep.third y3).drop.swap⟩
  have hee : (flushE s t A == flushE s t A) = true := by simp
  clear y1 y2 y3
  generalize flushE s t A = eU at *
  refine wpOrd_yield (v := .bool true) rfl (fun u _ => by have := hee; go_simp) ?_
  simp only [Act.put, List.setIfInBounds_toArray, List.set_cons_succ, List.set_cons_zero]
  refine wpOrd_yield (v := .bool true) rfl (fun u _ => by go_simp) ?_
  simp only [Act.put, List.setIfInBounds_toArray, List.set_cons_succ, List.set_cons_zero]
  refine wpOrd_nil ?_
  go_wp2
  go_ret
  exact ⟨rfl, _, _, _, HFF.out⟩
end Go.Proofs.Ytencclpcebpgmaa
/- One kind of step with a cache (3), of both sides: the same answer, and they stand alike behind it; no condition but the counts' bounds. -/
namespace Go.Proofs.Ytencclpcebpgmaa
open Go.RowKit Go.Maps
set_option linter.unusedVariables false
set_option maxRecDepth 20000 in
set_option maxHeartbeats 4000000 in
theorem ask_3 {w W : World} {gx d dr c g n : Nat} {c1 w1 : Value} {s : CSt} {t : St} {u : RD} {i : Nat} {l : List Part} (h : AskS w W gx d dr c g n c1 w1 s t u i l) (hi : i < 1000000) (dd sc at_ fl : Value) (hd : dd = .int .u8 3) (A : Int) (ha : at_ = .int .i64 A) (F : Int) (hf : fl = .int .u16 F) (hF : 0 ≤ F ∧ F < 65536) :
    Calls Try.prog 14 #[.pointer (some ⟨gx, 0, none⟩), .agg #[dd, sc, at_, fl], .int .i64 0] W fun e W' => e = .returned (.bool true) ∧ ∃ s' t' u', AskS w W' gx d dr c g n c1 w1 s' t' u' (i + 1) l := by
  subst hd ha hf
  obtain ⟨K, L, R, v, vl, vk, T1, T2, rfl, rfl, rfl, hM, hC, hT, h0⟩ := h
  have HM : Hid (Mate t n u) := hM
  have HC : Hid (Cn t i) := hC
  have HT : Hid (Told T1 T2 i) := hT
  have hcd : CD W K L s t := h0.head
  have hok := hcd.cache.ok
  have hrow : s.row.length ≤ 1000000 := by have := hok.size; have := hok.len; omega
  have HOk : Hid (COk s) := hok
  have HDk : Hid (Ok t) := hcd.disk.ok
  have hroom : Room t := hC.room (by omega)
  have S1 := sep_box h0 #[.int .u8 3, sc, .int .i64 A, .int .u16 F] 46
  have hr : (W.alloc (.cells #[.int .u8 3, sc, .int .i64 A, .int .u16 F] 46)).heap[W.heap.size]? = some (.cells #[.int .u8 3, sc, .int .i64 A, .int .u16 F] 46) := heap_alloc_new _ _
  have HS1 := (show Hid _ from S1)
  have e0 : (W.alloc (.cells #[.int .u8 3, sc, .int .i64 A, .int .u16 F] 46)).cell? ⟨W.heap.size, 0, none⟩ = some (.int .u8 3) := Joins.cell_of_block hr 0
  have e2 : (W.alloc (.cells #[.int .u8 3, sc, .int .i64 A, .int .u16 F] 46)).cell? ⟨W.heap.size, 2, none⟩ = some (.int .i64 A) := Joins.cell_of_block hr 2
  have e3 : (W.alloc (.cells #[.int .u8 3, sc, .int .i64 A, .int .u16 F] 46)).cell? ⟨W.heap.size, 3, none⟩ = some (.int .u16 F) := Joins.cell_of_block hr 3
  have hx := S1.say (bxP gx (xRow L.d R.g K.c g c1 w1 vl vk) 36) (by simp)
  have x2 : (W.alloc (.cells #[.int .u8 3, sc, .int .i64 A, .int .u16 F] 46)).cell? ⟨gx, 2, none⟩ = some (.pointer (some ⟨K.c, 0, none⟩)) := Joins.cell_of_block hx 2
  have x4 : (W.alloc (.cells #[.int .u8 3, sc, .int .i64 A, .int .u16 F] 46)).cell? ⟨gx, 4, none⟩ = some (.pointer (some ⟨g, 0, none⟩)) := Joins.cell_of_block hx 4
  clear h0 hM hC hT hcd hok S1 hr hx
  go_enter Try.func14, Try.ntmps14
  go_upto_region 1 with fail
  generalize W.alloc (.cells #[.int .u8 3, sc, .int .i64 A, .int .u16 F] 46) = X at *
  generalize W.heap.size = B at *
  have z25 := zero25
  have y0 := Sep.later HS1.out (belowN (Below.refl _ _) 1)
  have q1 : CD X.drew K L s t := y0.say (pcP K L s t) (by simp)
  have q2 : RPr X.drew g R v n s u := y0.say (rcP g R v n s u) (by simp)
  have k1 := fast_of q1.cache
  have k2 := fast6 q2.c hrow
  have k3 := len_of_cache q1.cache
  obtain ⟨pv, cv, hv⟩ := q2.c.shape
  have d2 : X.drew.cell? ⟨g, 2, none⟩ = some v := q2.c.cell 2
  rw [hv] at d2
  have HFF : Hid (AskS w X.drew gx L.d R.g K.c g n c1 w1 s t u (i + 1) l) := ⟨K, L, R, v, vl, vk, T1, T2, rfl, rfl, rfl, HM.out, HC.out.more, HT.out.more, y0.drop⟩
  have ef : ((fastN s.row : Int) == (fastN s.row : Int)) = true := by simp
  have el : ((s.row.length : Int) == (s.row.length : Int)) = true := by simp
  clear y0 q1 q2 hv
  generalize (fastN s.row : Int) = fN at *
  generalize s.row.length = N at *
  go_wp2
  refine wp_region_ord (S := fun u => u.cell? ⟨g, 2, none⟩ = some (.slice pv N cv)) [(0, true), (2, true), (1, false), (3, false), (4, true), (5, true), (6, true), (8, true), (9, true), (10, true), (11, true), (12, true), (7, false), (13, true), (14, true), (15, true)] (by kernel_rfl) rfl (by kernel_rfl) (fun d _ _ _ _ h => by cases d <;> exact h) d2 ?_
  simp only [inOrd, List.getElem?_cons_zero, List.getElem?_cons_succ]
  generalize X.drew = Z at *
  refine wpOrd_yield (v := .pointer (some ⟨K.c, 0, none⟩)) rfl (fun u _ => exec_mv rfl rfl) ?_
  simp only [Act.put, List.setIfInBounds_toArray, List.set_cons_succ, List.set_cons_zero]
  refine wpOrd_yield (v := .pointer (some ⟨g, 0, none⟩)) rfl (fun u _ => exec_mv rfl rfl) ?_
  simp only [Act.put, List.setIfInBounds_toArray, List.set_cons_succ, List.set_cons_zero]
  refine wpOrd_call rfl 27 _ _ rfl Try.call27 [.pointer (some ⟨K.c, 0, none⟩)] rfl ?_
  refine k1.mono ?_
  rintro e Y1 ⟨rfl, hY1⟩
  subst hY1
  refine ⟨_, rfl, d2, ?_⟩
  simp only [Act.put, List.setIfInBounds_toArray, List.set_cons_succ, List.set_cons_zero]
  refine wpOrd_call rfl 28 _ _ rfl Try.call28 [.pointer (some ⟨g, 0, none⟩)] rfl ?_
  refine k2.mono ?_
  rintro e Y2 ⟨rfl, hY2⟩
  subst hY2
  refine ⟨_, rfl, d2, ?_⟩
  simp only [Act.put, List.setIfInBounds_toArray, List.set_cons_succ, List.set_cons_zero]
  refine wpOrd_yield (v := .bool true) rfl (fun u _ => by have := ef; go_simp) ?_
  simp only [Act.put, List.setIfInBounds_toArray, List.set_cons_succ, List.set_cons_zero]
  refine wpOrd_yield (v := .bool true) rfl (fun u _ => exec_mv rfl rfl) ?_
  simp only [Act.put, List.setIfInBounds_toArray, List.set_cons_succ, List.set_cons_zero]
  refine wpOrd_yield (v := .pointer (some ⟨K.c, 0, none⟩)) rfl (fun u _ => exec_mv rfl rfl) ?_
  simp only [Act.put, List.setIfInBounds_toArray, List.set_cons_succ, List.set_cons_zero]
  refine wpOrd_yield (v := .pointer (some ⟨g, 0, none⟩)) rfl (fun u _ => exec_mv rfl rfl) ?_
  simp only [Act.put, List.setIfInBounds_toArray, List.set_cons_succ, List.set_cons_zero]
  refine wpOrd_yield (v := .pointer (some ⟨g, 0, none⟩)) rfl (fun u _ => by go_simp) ?_
  simp only [Act.put, List.setIfInBounds_toArray, List.set_cons_succ, List.set_cons_zero]
  refine wpOrd_yield (v := .pointer (some ⟨g, 2, none⟩)) rfl (fun u _ => by go_simp) ?_
  simp only [Act.put, List.setIfInBounds_toArray, List.set_cons_succ, List.set_cons_zero]
  refine wpOrd_yield (v := .slice pv N cv) rfl (fun u hu => by have := hu; go_simp) ?_
  simp only [Act.put, List.setIfInBounds_toArray, List.set_cons_succ, List.set_cons_zero]
  refine wpOrd_yield (v := .int .i64 (N : Int)) rfl (fun u _ => by go_simp) ?_
  simp only [Act.put, List.setIfInBounds_toArray, List.set_cons_succ, List.set_cons_zero]
  refine wpOrd_call rfl 29 _ _ rfl Try.call29 [.pointer (some ⟨K.c, 0, none⟩)] rfl ?_
  refine k3.mono ?_
  rintro e Y3 ⟨rfl, hY3⟩
  subst hY3
  refine ⟨_, rfl, d2, ?_⟩
  simp only [Act.put, List.setIfInBounds_toArray, List.set_cons_succ, List.set_cons_zero]
  refine wpOrd_yield (v := .bool true) rfl (fun u _ => by have := el; go_simp) ?_
  simp only [Act.put, List.setIfInBounds_toArray, List.set_cons_succ, List.set_cons_zero]
  refine wpOrd_yield (v := .bool true) rfl (fun u _ => by go_simp) ?_
  simp only [Act.put, List.setIfInBounds_toArray, List.set_cons_succ, List.set_cons_zero]
  refine wpOrd_yield (v := .bool true) rfl (fun u _ => by go_simp) ?_
  simp only [Act.put, List.setIfInBounds_toArray, List.set_cons_succ, List.set_cons_zero]
  refine wpOrd_nil ?_
  clear k1 k2 k3
  go_wp2
  go_ret
  exact ⟨rfl, _, _, _, HFF.out⟩
end Go.Proofs.Ytencclpcebpgmaa
/- One kind of step with a cache (4), of both sides: the same answer, and they stand alike behind it; no condition but the counts' bounds. -/
namespace Go.Proofs.Ytencclpcebpgmaa
open Go.RowKit Go.Maps
set_option linter.unusedVariables false
set_option maxRecDepth 20000 in
set_option maxHeartbeats 4000000 in
theorem ask_4 {w W : World} {gx d dr c g n : Nat} {c1 w1 : Value} {s : CSt} {t : St} {u : RD} {i : Nat} {l : List Part} (h : AskS w W gx d dr c g n c1 w1 s t u i l) (hi : i < 1000000) (dd sc at_ fl : Value) (hd : dd = .int .u8 4) (A : Int) (ha : at_ = .int .i64 A) (F : Int) (hf : fl = .int .u16 F) (hF : 0 ≤ F ∧ F < 65536) :
    Calls Try.prog 14 #[.pointer (some ⟨gx, 0, none⟩), .agg #[dd, sc, at_, fl], .int .i64 0] W fun e W' => e = .returned (.bool true) ∧ ∃ s' t' u', AskS w W' gx d dr c g n c1 w1 s' t' u' (i + 1) l := by
  subst hd ha hf
  obtain ⟨K, L, R, v, vl, vk, T1, T2, rfl, rfl, rfl, hM, hC, hT, h0⟩ := h
  have HM : Hid (Mate t n u) := hM
  have HC : Hid (Cn t i) := hC
  have HT : Hid (Told T1 T2 i) := hT
  have hcd : CD W K L s t := h0.head
  have hok := hcd.cache.ok
  have hrow : s.row.length ≤ 1000000 := by have := hok.size; have := hok.len; omega
  have HOk : Hid (COk s) := hok
  have HDk : Hid (Ok t) := hcd.disk.ok
  have hroom : Room t := hC.room (by omega)
  have S1 := sep_box h0 #[.int .u8 4, sc, .int .i64 A, .int .u16 F] 46
  have hr : (W.alloc (.cells #[.int .u8 4, sc, .int .i64 A, .int .u16 F] 46)).heap[W.heap.size]? = some (.cells #[.int .u8 4, sc, .int .i64 A, .int .u16 F] 46) := heap_alloc_new _ _
  have HS1 := (show Hid _ from S1)
  have e0 : (W.alloc (.cells #[.int .u8 4, sc, .int .i64 A, .int .u16 F] 46)).cell? ⟨W.heap.size, 0, none⟩ = some (.int .u8 4) := Joins.cell_of_block hr 0
  have e2 : (W.alloc (.cells #[.int .u8 4, sc, .int .i64 A, .int .u16 F] 46)).cell? ⟨W.heap.size, 2, none⟩ = some (.int .i64 A) := Joins.cell_of_block hr 2
  have e3 : (W.alloc (.cells #[.int .u8 4, sc, .int .i64 A, .int .u16 F] 46)).cell? ⟨W.heap.size, 3, none⟩ = some (.int .u16 F) := Joins.cell_of_block hr 3
  have hx := S1.say (bxP gx (xRow L.d R.g K.c g c1 w1 vl vk) 36) (by simp)
  have x2 : (W.alloc (.cells #[.int .u8 4, sc, .int .i64 A, .int .u16 F] 46)).cell? ⟨gx, 2, none⟩ = some (.pointer (some ⟨K.c, 0, none⟩)) := Joins.cell_of_block hx 2
  have x4 : (W.alloc (.cells #[.int .u8 4, sc, .int .i64 A, .int .u16 F] 46)).cell? ⟨gx, 4, none⟩ = some (.pointer (some ⟨g, 0, none⟩)) := Joins.cell_of_block hx 4
  clear h0 hM hC hT hcd hok S1 hr hx
  go_enter Try.func14, Try.ntmps14
  go_upto_region 1 with fail
  generalize W.alloc (.cells #[.int .u8 4, sc, .int .i64 A, .int .u16 F] 46) = X at *
  generalize W.heap.size = B at *
  have z25 := zero25
  have q1 : CD X K L s t := HS1.out.say (pcP K L s t) (by simp)
  have k1 := order_of q1.cache
  have hol : (ordV s.row).length = s.row.length := by simp [ordV]
  have hrw : (ordV s.row).length ≤ 4096 := by have := HOk.out.size; have := HOk.out.len; omega
  clear q1 hol
  go_wp2_with (first | (go_at_call 31; fail))
  refine k1.mono ?_
  rintro e Y1 ⟨v1, rfl, o1, hb1⟩
  obtain ⟨p1, cp1, rfl, i1, _, _⟩ := ints_of_row o1
  rw [← flat_int] at o1
  have y1 := sep_list (en := enW) (e := 3) (sz := 1) (x := ⟨p1, cp1, ordV s.row⟩) HS1.out hb1 o1
  have HY1 := (show Hid _ from y1)
  have q2 : RPr Y1 g R v n s u := y1.say (rcP g R v n s u) (by simp)
  have k2 := order6 q2.c hrow
  clear k1 o1 i1 y1 q2 hb1 HS1
  go_wp2_with (first | (go_at_call 19; fail))
  refine k2.mono ?_
  rintro e Y2 ⟨v2, rfl, o2, hb2⟩
  obtain ⟨p2, cp2, rfl, i2, _, _⟩ := ints_of_row o2
  rw [← flat_int] at o2
  have y2 := pm1 (sep_list (en := enW) (e := 3) (sz := 1) (x := ⟨p2, cp2, ordV s.row⟩) HY1.out hb2 o2)
  obtain ⟨i1', hi1, hy0, hy1, hy2⟩ := info_parts infW54
  have hT1 := HT.out.len
  have hT2 : T2.length ≤ i := by have h1 := congrArg List.length HT.out.same; simp only [List.length_map] at h1; omega
  obtain ⟨p3, c3, W3, hr1, y3⟩ := sep_tell (st := 34) Try.underlying34 hi1 hy0 hy1 hy2 (by decide) y2 (by omega) 34
  have y4 := pm2 y3
  have y5 := sep_setBox y4 6 (.slice p3 (T1.length + 1) c3)
  have y6 := pm3 y5
  obtain ⟨p4, c4, W5, hr2, y7⟩ := sep_tell (st := 34) Try.underlying34 hi1 hy0 hy1 hy2 (by decide) y6 (by omega) 34
  have y8 := pm4 y7
  have y9 := sep_setBox y8 7 (.slice p4 (T2.length + 1) c4)
  have y10 := pm5 y9
  have hx2 := y2.say (bxP gx (xRow L.d R.g K.c g c1 w1 vl vk) 36) (by simp)
  have g6 : Y2.cell? ⟨gx, 6, none⟩ = some vl := Joins.cell_of_block hx2 6
  have f6 : W3.frozen? ⟨gx, 6, none⟩ = false := Joins.unfrozen_of_block y4.head 6
  have k6 : W3.cell? ⟨gx, 6, none⟩ = some vl := Joins.cell_of_block (show W3.heap[gx]? = some (.cells (xRow L.d R.g K.c g c1 w1 vl vk) 36) from y4.head) 6
  have hx5 : (W3.setCell ⟨gx, 6, none⟩ (.slice p3 (T1.length + 1) c3)).heap[gx]? = some (.cells (xRow L.d R.g K.c g c1 w1 (.slice p3 (T1.length + 1) c3) vk) 36) := y5.head
  have g7 : (W3.setCell ⟨gx, 6, none⟩ (.slice p3 (T1.length + 1) c3)).cell? ⟨gx, 7, none⟩ = some vk := Joins.cell_of_block hx5 7
  have f7 : W5.frozen? ⟨gx, 7, none⟩ = false := Joins.unfrozen_of_block y8.head 7
  have k7 : W5.cell? ⟨gx, 7, none⟩ = some vk := Joins.cell_of_block (show W5.heap[gx]? = some (.cells (xRow L.d R.g K.c g c1 w1 (.slice p3 (T1.length + 1) c3) vk) 36) from y8.head) 7
  obtain ⟨pl, cl, hvl, _⟩ := own_slice (show Bk enW 3 54 1 vl T1 Y2 from y2.say (bkP enW 3 54 1 vl T1) (by simp)).row
  obtain ⟨pk, ck, hvk, _⟩ := own_slice (show Bk enW 3 54 1 vk T2 Y2 from y2.say (bkP enW 3 54 1 vk T2) (by simp)).row
  have HFF : Hid (AskS w ((W5.setCell ⟨gx, 7, none⟩ (.slice p4 (T2.length + 1) c4))) gx L.d R.g K.c g n c1 w1 s t u (i + 1) l) := by
    refine ⟨K, L, R, v, .slice p3 (T1.length + 1) c3, .slice p4 (T2.length + 1) c4, _, _, rfl, rfl, rfl, HM.out, HC.out.more, ⟨?_, ?_, ?_⟩, y10.drop⟩
    · rw [List.map_append, List.map_append, HT.out.same]
      rfl
    · rw [List.length_append]
      simp only [List.length_singleton]
      omega
    · intro x hx
      rcases List.mem_append.1 hx with hx | hx
      · exact HT.out.each x hx
      · rw [List.mem_singleton.1 hx]
        exact hrw
  have hfin : Below w.heap.size w (W5.setCell ⟨gx, 7, none⟩ (.slice p4 (T2.length + 1) c4)) := y10.below
  have b1 := y10.say (bkP enW 3 54 1 (.slice p3 (T1.length + 1) c3) (T1 ++ [⟨p1, cp1, ordV s.row⟩])) (by simp)
  have b2 := y10.say (bkP enW 3 54 1 (.slice p4 (T2.length + 1) c4) (T2 ++ [⟨p2, cp2, ordV s.row⟩])) (by simp)
  have j1 : IntsAt _ p1 (ordV s.row) := tl_ints (Bk.own b1 ⟨p1, cp1, ordV s.row⟩ (by simp))
  have j2 : IntsAt _ p2 (ordV s.row) := tl_ints (Bk.own b2 ⟨p2, cp2, ordV s.row⟩ (by simp))
  have hsm := sameInts_any (ordV s.row) (ordV s.row) p1 p2 cp1 cp2 _ (by omega) j1 j2
  have hfl : ∀ V, Below (W5.setCell ⟨gx, 7, none⟩ (.slice p4 (T2.length + 1) c4)).heap.size (W5.setCell ⟨gx, 7, none⟩ (.slice p4 (T2.length + 1) c4)) V → AskS w V gx L.d R.g K.c g n c1 w1 s t u (i + 1) l := fun V hb => by
    obtain ⟨K0, L0, R0, v0, a0, b0, A1, A2, r1, r2, r3, r4, r5, r6, r7⟩ := HFF.out
    exact ⟨K0, L0, R0, v0, a0, b0, A1, A2, r1, r2, r3, r4, r5, r6, r7.later hb⟩
  have HFL := (show Hid _ from hfl)
  simp only [decide_true] at hsm
  subst hvl hvk
  have HR1 : Hid ((Builtin.append_ #[34, 34] 34 #[.slice pl T1.length cl, .slice (some ⟨Y2.heap.size, 0, none⟩) 1 1]).run Try.prog (Y2.alloc (.cells #[.slice p1 (ordV s.row).length cp1] 54)) = .ok (.slice p3 (T1.length + 1) c3) W3) := hr1
  have HR2 : Hid ((Builtin.append_ #[34, 34] 34 #[.slice pk T2.length ck, .slice (some ⟨(W3.setCell ⟨gx, 6, none⟩ (.slice p3 (T1.length + 1) c3)).heap.size, 0, none⟩) 1 1]).run Try.prog ((W3.setCell ⟨gx, 6, none⟩ (.slice p3 (T1.length + 1) c3)).alloc (.cells #[.slice p2 (ordV s.row).length cp2] 54)) = .ok (.slice p4 (T2.length + 1) c4) W5) := hr2
  clear y2 y3 y4 y5 y6 y7 y8 y9 y10 hr1 hr2 hx2 hx5 b1 b2 j1 j2 hfl hfin HFF k2 o2 i2 hb2 HY1
  generalize (ordV s.row).length = NN at *
  go_upto_region 18 with (at_builtin; refine wpList_exec rfl (exec_push rfl rfl rfl HR1.out) ?_)
  clear f6 k6 g6 HR1
  generalize W3.setCell ⟨gx, 6, none⟩ (.slice p3 (T1.length + 1) c3) = W4 at *
  go_upto_region 19 with (at_builtin; refine wpList_exec rfl (exec_push rfl rfl rfl HR2.out) ?_)
  clear f7 k7 g7 HR2
  generalize W5.setCell ⟨gx, 7, none⟩ (.slice p4 (T2.length + 1) c4) = W6 at *
  go_wp2_with (first | (go_at_call 30; fail))
  refine hsm.mono ?_
  rintro e Z ⟨rfl, hbZ⟩
  have HZ := (show Hid _ from HFL.out Z hbZ)
  clear hbZ hsm HFL
  go_wp2
  go_ret
  exact ⟨rfl, _, _, _, HZ.out⟩
end Go.Proofs.Ytencclpcebpgmaa
/- One kind of step with a cache (x), of both sides: the same answer, and they stand alike behind it; no condition but the counts' bounds. -/
namespace Go.Proofs.Ytencclpcebpgmaa
open Go.RowKit Go.Maps
set_option linter.unusedVariables false
set_option maxRecDepth 20000 in
set_option maxHeartbeats 4000000 in
theorem ask_x {w W : World} {gx d dr c g n : Nat} {c1 w1 : Value} {s : CSt} {t : St} {u : RD} {i : Nat} {l : List Part} (h : AskS w W gx d dr c g n c1 w1 s t u i l) (hi : i < 1000000) (dd sc at_ fl : Value) (o : Int) (hd : dd = .int .u8 o) (m0 : ¬ o = 0) (m1 : ¬ o = 1) (m2 : ¬ o = 2) (m3 : ¬ o = 3) (m4 : ¬ o = 4) (A : Int) (ha : at_ = .int .i64 A) (F : Int) (hf : fl = .int .u16 F) (hF : 0 ≤ F ∧ F < 65536) :
    Calls Try.prog 14 #[.pointer (some ⟨gx, 0, none⟩), .agg #[dd, sc, at_, fl], .int .i64 0] W fun e W' => e = .returned (.bool true) ∧ ∃ s' t' u', AskS w W' gx d dr c g n c1 w1 s' t' u' (i + 1) l := by
  subst hd ha hf
  obtain ⟨K, L, R, v, vl, vk, T1, T2, rfl, rfl, rfl, hM, hC, hT, h0⟩ := h
  have HM : Hid (Mate t n u) := hM
  have HC : Hid (Cn t i) := hC
  have HT : Hid (Told T1 T2 i) := hT
  have hcd : CD W K L s t := h0.head
  have hok := hcd.cache.ok
  have hrow : s.row.length ≤ 1000000 := by have := hok.size; have := hok.len; omega
  have HOk : Hid (COk s) := hok
  have HDk : Hid (Ok t) := hcd.disk.ok
  have hroom : Room t := hC.room (by omega)
  have S1 := sep_box h0 #[.int .u8 o, sc, .int .i64 A, .int .u16 F] 46
  have hr : (W.alloc (.cells #[.int .u8 o, sc, .int .i64 A, .int .u16 F] 46)).heap[W.heap.size]? = some (.cells #[.int .u8 o, sc, .int .i64 A, .int .u16 F] 46) := heap_alloc_new _ _
  have HS1 := (show Hid _ from S1)
  have e0 : (W.alloc (.cells #[.int .u8 o, sc, .int .i64 A, .int .u16 F] 46)).cell? ⟨W.heap.size, 0, none⟩ = some (.int .u8 o) := Joins.cell_of_block hr 0
  have e2 : (W.alloc (.cells #[.int .u8 o, sc, .int .i64 A, .int .u16 F] 46)).cell? ⟨W.heap.size, 2, none⟩ = some (.int .i64 A) := Joins.cell_of_block hr 2
  have e3 : (W.alloc (.cells #[.int .u8 o, sc, .int .i64 A, .int .u16 F] 46)).cell? ⟨W.heap.size, 3, none⟩ = some (.int .u16 F) := Joins.cell_of_block hr 3
  have hx := S1.say (bxP gx (xRow L.d R.g K.c g c1 w1 vl vk) 36) (by simp)
  have x2 : (W.alloc (.cells #[.int .u8 o, sc, .int .i64 A, .int .u16 F] 46)).cell? ⟨gx, 2, none⟩ = some (.pointer (some ⟨K.c, 0, none⟩)) := Joins.cell_of_block hx 2
  have x4 : (W.alloc (.cells #[.int .u8 o, sc, .int .i64 A, .int .u16 F] 46)).cell? ⟨gx, 4, none⟩ = some (.pointer (some ⟨g, 0, none⟩)) := Joins.cell_of_block hx 4
  clear h0 hM hC hT hcd hok S1 hr hx
  go_enter Try.func14, Try.ntmps14
  go_upto_region 1 with fail
  generalize W.alloc (.cells #[.int .u8 o, sc, .int .i64 A, .int .u16 F] 46) = X at *
  generalize W.heap.size = B at *
  have z25 := zero25
  have n0 : (o == 0) = false := by simpa using m0
  have n1 : (o == 1) = false := by simpa using m1
  have n2 : (o == 2) = false := by simpa using m2
  have n3 : (o == 3) = false := by simpa using m3
  have n4 : (o == 4) = false := by simpa using m4
  have HFF : Hid (AskS w X gx L.d R.g K.c g n c1 w1 s t u (i + 1) l) := ⟨K, L, R, v, vl, vk, T1, T2, rfl, rfl, rfl, HM.out, HC.out.more, HT.out.more, HS1.out.drop⟩
  clear m0 m1 m2 m3 m4 HS1
  go_wp2
  go_ret
  exact ⟨rfl, _, _, _, HFF.out⟩
end Go.Proofs.Ytencclpcebpgmaa
/- A step with the first cache, of both sides, whatever its kind; no condition but the counts' bounds. -/
namespace Go.Proofs.Ytencclpcebpgmaa
open Go.RowKit Go.Maps
theorem ask_ok {w W : World} {gx d dr c g n : Nat} {c1 w1 : Value} {s : CSt} {t : St} {u : RD} {i : Nat} {l : List Part} (h : AskS w W gx d dr c g n c1 w1 s t u i l) (hi : i < 1000000) (sc : Value) (o A F : Int) (hF : 0 ≤ F ∧ F < 65536) :
    Calls Try.prog 14 #[.pointer (some ⟨gx, 0, none⟩), .agg #[.int .u8 o, sc, .int .i64 A, .int .u16 F], .int .i64 0] W fun e W' => e = .returned (.bool true) ∧ ∃ s' t' u', AskS w W' gx d dr c g n c1 w1 s' t' u' (i + 1) l := by
  by_cases h0 : o = 0
  · subst h0; exact ask_0 h hi _ sc _ _ rfl A rfl F rfl hF
  by_cases h1 : o = 1
  · subst h1; exact ask_1 h hi _ sc _ _ rfl A rfl F rfl hF
  by_cases h2 : o = 2
  · subst h2; exact ask_2 h hi _ sc _ _ rfl A rfl F rfl hF
  by_cases h3 : o = 3
  · subst h3; exact ask_3 h hi _ sc _ _ rfl A rfl F rfl hF
  by_cases h4 : o = 4
  · subst h4; exact ask_4 h hi _ sc _ _ rfl A rfl F rfl hF
  exact ask_x h hi _ sc _ _ o rfl h0 h1 h2 h3 h4 A rfl F rfl hF
end Go.Proofs.Ytencclpcebpgmaa
/- A disk filled as numbers say, the document's beside it; no condition. -/
namespace Go.Proofs.Ytencclpcebpgmaa
open Go.RowKit Go.Maps

theorem wpList_appendN {ops : Array Oper} {rest : List Oper} {o : Oper} {a : Act} {W : World} {Q : Exit → Act → World → Prop} (hgd : o.guard = none) (x y : Operand)
    (ho : o.op = .call { callee := .builtin .append, args := #[x, y], argTypes := #[49, 49] }) (B : Nat) (v : Value) (n : Nat) (hx : a.eval x = .slice none 0 0)
    (hy : a.eval y = v) (hown : Blocks W B v n) (hn : 0 < n ∧ n < 1000)
    (h : ∀ p c W', Below W.heap.size W W' → wpList Try.prog ops Q rest (a.put o.dst (.slice p n c)) W') :
    wpList Try.prog ops Q (o :: rest) a W := by
  obtain ⟨i0, hi0, hz0, hz1, hz2⟩ := info_parts info59b
  obtain ⟨cs, hown⟩ := hown
  rcases hown.2 with ⟨_, q⟩ | ⟨g, cap, cur, rfl, hg, hh, hc, _⟩
  · omega
  refine wpList_plain hgd fun K' hK' => ?_
  have hr := run_append_nil (P := Try.prog) W 49 o.type 59 i0 _ Try.underlying49 hi0 hz0 ⟨g, 0, none⟩ n cap cs (by rw [hz1]; exact hown.1) (hown.cells (g := g) rfl) (by omega) (by omega) (by rw [hz2]; omega)
  unfold Oper.wp
  simp [execOp, ho, resolve, invoke, builtin, hx, hy, hr, Result.andThen]
  exact hK' _ _ (h _ _ _ ((Below.refl _ _).drew.alloc (by simp) _))
def refRow (p q : Value) : Array Value := #[p, q, .int .i64 (-1), .bool false, .int .i64 0, .int .i64 0]
theorem Blocks.later {w w' : World} {B n : Nat} {v : Value} (h : Blocks w B v n) (hb : Below w.heap.size w w') : Blocks w' B v n := by
  obtain ⟨cs, h⟩ := h
  exact ⟨cs, ownsRow_kept0 h fun k hk => hb.block k (h.lt k hk).2⟩
set_option maxRecDepth 20000 in
theorem newDisk_any {W : World} {B n : Nat} {v : Value} (hown : Blocks W B v n) (hn : 0 < n ∧ n < 1000) : Calls Try.prog 40 #[v] W fun e w' => ∃ p, e = .returned (.pointer p) ∧ Below W.heap.size W w' := by
  have hR := heap_alloc_new W (.cells (refRow (.slice none 0 0) (.slice none 0 0)) 51)
  have hB1 := below_new W (.cells (refRow (.slice none 0 0) (.slice none 0 0)) 51)
  have hown1 := hown.later hB1
  have HD : Hid (∀ W1 (p : Option Addr) (c : Nat), Below (W.alloc (.cells (refRow (.slice none 0 0) (.slice none 0 0)) 51)).heap.size (W.alloc (.cells (refRow (.slice none 0 0) (.slice none 0 0)) 51)) W1 →
      W1.cell? ⟨W.heap.size, 0, none⟩ = some (.slice none 0 0) ∧ W1.frozen? ⟨W.heap.size, 0, none⟩ = false ∧ (W1.setCell ⟨W.heap.size, 0, none⟩ (.slice p n c)).cell? ⟨W.heap.size, 1, none⟩ = some (.slice none 0 0) ∧ Blocks (W1.setCell ⟨W.heap.size, 0, none⟩ (.slice p n c)) B v n ∧
      ∀ W2 (p2 : Option Addr) (c2 : Nat), Below (W1.setCell ⟨W.heap.size, 0, none⟩ (.slice p n c)).heap.size (W1.setCell ⟨W.heap.size, 0, none⟩ (.slice p n c)) W2 →
        W2.cell? ⟨W.heap.size, 1, none⟩ = some (.slice none 0 0) ∧ W2.frozen? ⟨W.heap.size, 1, none⟩ = false ∧ Below W.heap.size W (W2.setCell ⟨W.heap.size, 1, none⟩ (.slice p2 n c2))) := by
    intro W1 p c hb
    have h1 := heap_kept hR hb
    have h2 := Joins.block_setCell (i := 0) h1 (.slice p n c)
    have hw1 : Below W.heap.size W (W1.setCell ⟨W.heap.size, 0, none⟩ (.slice p n c)) := (below_next hB1 hb).setCell (Nat.le_refl _) _
    refine ⟨Joins.cell_of_block h1 0, Joins.unfrozen_of_block h1 0, Joins.cell_of_block h2 1, ?_, ?_⟩
    · obtain ⟨cs, hc⟩ := hown
      exact ⟨cs, ownsRow_kept0 hc fun k hk => hw1.block k (hc.lt k hk).2⟩
    · intro W2 p2 c2 hb2
      have h3 := heap_kept h2 hb2
      exact ⟨Joins.cell_of_block h3 1, Joins.unfrozen_of_block h3 1, (below_next hw1 hb2).setCell (Nat.le_refl _) _⟩
  have c0 : (W.alloc (.cells (refRow (.slice none 0 0) (.slice none 0 0)) 51)).cell? ⟨W.heap.size, 0, none⟩ = some (.slice none 0 0) := Joins.cell_of_block hR 0
  clear hown hR hB1
  unfold refRow at *
  go_enter Try.func40, Try.ntmps40
  go_wp2_with (first | (at_builtin; refine wpList_appendN rfl (.tmp 10) (.tmp 11) rfl B v n rfl rfl hown1 hn ?_; intro p1 c1 W1 hb1; obtain ⟨d0, f0, d1, hown2, hD2⟩ := HD.out W1 p1 c1 hb1; have HD2 : Hid _ := hD2; clear HD hD2 hb1 hown1 c0; generalize hV1 : W1.setCell ⟨W.heap.size, 0, none⟩ (.slice p1 n c1) = V1 at *) | (at_builtin; refine wpList_appendN rfl (.tmp 19) (.tmp 20) rfl B v n rfl rfl hown2 hn ?_; intro p2 c2 W2 hb2; obtain ⟨e0, g0, hfin⟩ := HD2.out W2 p2 c2 hb2; have HFin : Hid _ := hfin; clear HD2 hfin hb2 hown2 d1 d0))
  go_ret
  exact ⟨_, rfl, HFin.out⟩
/-- The image that a law has built so far, and the list of blocks beside it. -/
structure DI (w W : World) (g : Nat) (n : Int) (v5 v6 : Value) (l : List Cel) (k : Nat) : Prop where
  row : W.heap[g]? = some (.cells #[.int .i64 n, v5] 92)
  im : W.ownsRow (g + 1) 94 1025 v5 l.length (celCells l)
  bl : Blocks W (g + 1) v6 k
  ne : ∀ a, v5.ownBlock = some a → v6.ownBlock ≠ some a
  bel : Below g w W
section
variable {w W W' : World} {g : Nat} {n : Int} {v5 v6 : Value} {l : List Cel} {k : Nat}
theorem DI.lt (h : DI w W g n v5 v6 l k) : g < W.heap.size := (Array.getElem?_eq_some_iff.1 h.row).1
theorem DI.later (h : DI w W g n v5 v6 l k) (hb : Below W.heap.size W W') : DI w W' g n v5 v6 l k :=
  ⟨heap_kept h.row hb, ownsRow_kept0 h.im fun a ha => hb.block a (h.im.lt a ha).2, h.bl.later hb, h.ne, h.bel.trans (hb.mono (Nat.le_of_lt h.lt))⟩
theorem DI.block (h : DI w W g n v5 v6 l k) {o : Obj} {v6' : Value} (h1 : Blocks W' (g + 1) v6' (k + 1)) (h2 : (W.alloc o).grownBy W' v6.ownBlock) (h3 : Below (g + 1) W W') (h4 : ∀ a, v6'.ownBlock = some a → v6.ownBlock = some a ∨ W.heap.size < a) : DI w W' g n v5 v6' l (k + 1) := by
  refine ⟨(h3.block g (by omega)).trans h.row, ownsRow_kept0 h.im fun a ha => ?_, h1, fun a ha hq => ?_, h.bel.trans (h3.mono (by omega))⟩
  · have hlt := (h.im.lt a ha).2
    rw [h2.block a (by simp; omega) (fun q => h.ne a ha q.symm), heap_alloc_old W o hlt]
  · rcases h4 a hq with q | q
    · exact h.ne a ha q
    · have := (h.im.lt a ha).2; omega
theorem DI.cel (h : DI w W g n v5 v6 l k) {o : Obj} {c : Cel} {v5' : Value} (h1 : W'.ownsRow (g + 1) 94 1025 v5' (l ++ [c]).length (celCells (l ++ [c]))) (h2 : (W.alloc o).grownBy W' v5.ownBlock) (h3 : Below (g + 1) W W') (h4 : ∀ a, v5'.ownBlock = some a → v5.ownBlock = some a ∨ W.heap.size < a) :
    DI w (W'.setCell ⟨g, 1, none⟩ v5') g n v5' v6 (l ++ [c]) k ∧ W'.cell? ⟨g, 1, none⟩ = some v5 ∧ W'.frozen? ⟨g, 1, none⟩ = false := by
  have hrow := (h3.block g (by omega)).trans h.row
  obtain ⟨cs, hbl⟩ := h.bl
  have hne6 : ∀ a, v6.ownBlock = some a → a ≠ g := fun a ha => by have := (hbl.lt a ha).1; omega
  have hne5 : ∀ a, v5'.ownBlock = some a → a ≠ g := fun a ha => by have := (h1.lt a ha).1; omega
  refine ⟨⟨?_, ownsRow_kept0 h1 fun a ha => Below.heap_setCell _ _ _ _ (hne5 a ha), ⟨cs, ownsRow_kept0 hbl fun a ha => ?_⟩, fun a ha hq => ?_, (h.bel.trans (h3.mono (by omega))).setCell (Nat.le_refl _) _⟩, Joins.cell_of_block hrow 1, Joins.unfrozen_of_block hrow 1⟩
  · rw [Joins.block_setCell hrow]
    rfl
  · have hlt := (hbl.lt a ha).2
    rw [Below.heap_setCell _ _ _ _ (hne6 a ha), h2.block a (by simp; omega) (fun q => h.ne a q.symm ha), heap_alloc_old W o hlt]
  · rcases h4 a ha with q | q
    · exact h.ne a q hq
    · have := (hbl.lt a hq).2; omega
end
/-- The image of numbers. -/
def imgL (xs : Nat → Int) : Nat → List Cel
  | 0 => []
  | k + 1 => if sameB (fillF (xs k)) nought then imgL xs k else imgL xs k ++ [((k : Int), fillF (xs k))]
theorem imgL_len (xs : Nat → Int) : ∀ k, (imgL xs k).length ≤ k
  | 0 => Nat.le_refl _
  | k + 1 => by
    have := imgL_len xs k
    unfold imgL
    split
    · omega
    · rw [List.length_append]; simp; omega
theorem imgL_mem (xs : Nat → Int) : ∀ k c, c ∈ imgL xs k → (0 ≤ c.1 ∧ c.1 < k) ∧ c.2 = fillF (xs c.1.toNat) ∧ sameB c.2 nought = false
  | 0, c, h => by simp [imgL] at h
  | k + 1, c, h => by
    unfold imgL at h
    cases hs : sameB (fillF (xs k)) nought with
    | true =>
      rw [hs, if_pos rfl] at h
      obtain ⟨h1, h2⟩ := imgL_mem xs k c h
      exact ⟨by omega, h2⟩
    | false =>
      rw [hs, if_neg (by simp)] at h
      rcases List.mem_append.1 h with h | h
      · obtain ⟨h1, h2⟩ := imgL_mem xs k c h
        exact ⟨by omega, h2⟩
      · obtain rfl : c = ((k : Int), fillF (xs k)) := by simpa using h
        exact ⟨by simp; omega, by simp, hs⟩
theorem risesB_snoc (n : Int) (c : Cel) : ∀ (l : List Cel) (a : Int), risesB n a l = true → (∀ x ∈ l, x.1 < c.1) → a < c.1 → c.1 < n → blankB c.2 = false → risesB n a (l ++ [c]) = true
  | [], a, _, _, h1, h2, h3 => by
    simp [risesB, h3]
    omega
  | x :: t, a, h, hx, h1, h2, h3 => by
    unfold risesB at h
    simp only [Bool.and_eq_true] at h
    show risesB n a (x :: (t ++ [c])) = true
    unfold risesB
    simp only [Bool.and_eq_true]
    exact ⟨h.1, risesB_snoc n c t x.1 h.2 (fun y hy => hx y (List.mem_cons_of_mem _ hy)) (hx x (List.mem_cons_self ..)) h2 h3⟩
theorem imgL_may (xs : Nat → Int) {n : Nat} (hn : 1 ≤ n ∧ n ≤ 64) : mayB (n : Int) (imgL xs n) = true := by
  have key : ∀ k, k ≤ n → risesB (n : Int) (-1) (imgL xs k) = true := by
    intro k
    induction k with
    | zero => intro _; rfl
    | succ k ih =>
      intro hk
      have h1 := ih (by omega)
      unfold imgL
      cases hs : sameB (fillF (xs k)) nought with
      | true => rw [if_pos rfl]; exact h1
      | false =>
        rw [if_neg (by simp)]
        exact risesB_snoc _ _ _ _ h1 (fun x hx => (imgL_mem xs k x hx).1.2) (by simp; omega) (by simp; omega) hs
  unfold mayB
  rw [key n (Nat.le_refl _)]
  have hb : bndB (n : Int) = true := by unfold bndB; simp; omega
  rw [hb]
  rfl
end Go.Proofs.Ytencclpcebpgmaa
