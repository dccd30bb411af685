/- Several texts joined, each with its own remark; no condition. -/
import Derived.Test.YtembocfghkmieaaK12
import Derived.BigQuiet
import Derived.Test.YtembocfghkmieaaK5
/- act of both disks: the calls that tell a list: Pending, History: each list lies in new memory, and stands in the book; no condition but that numbers do not pass their greatest. -/
namespace Go.Proofs.Ytembocfghkmieaa
open Go.RowKit Go.Maps
variable {w W : World} {d g gy m : Nat} {s : St} {t : RSt} {l : List Part} {v0 v1 v2 v3 v4 v5 : Value} {Y : Book}
set_option maxRecDepth 20000 in
set_option maxHeartbeats 2000000 in
theorem act_pending (h : Both w W d g s t (bkL gy v0 v1 v2 v3 v4 v5 Y l)) (hS : Sim t s) (hc : Cap s m) (hY : Y.Ok m) (hm : m ≤ 6000000) (o pos n : Int) (pv kv : Value) :
    Calls Try.prog 12 #[.pointer (some ⟨gy, 0, none⟩), .pointer (some ⟨d, 0, none⟩), .pointer (some ⟨g, 0, none⟩), .agg (actC o 7 pos pv n kv)] W fun e W' => e = .returned (.bool true) ∧ ActY w d g gy m l W' := by
  have hb0 := h.box (.cells (actC o 7 pos pv n kv) 44)
  have hR := hS.room h.ok hc (by omega)
  have hA := heap_alloc_new W (.cells (actC o 7 pos pv n kv) 44)
  obtain ⟨i0, hi0, hz0, hz1, hz2⟩ := info_parts inf65
  have HI := Hid.mk' (And.intro hi0 (And.intro hz0 (And.intro hz1 hz2)))
  have HS := Hid.mk' hS
  have HC := Hid.mk' hc
  have HY := Hid.mk' hY
  have HR := Hid.mk' hR
  have hwl := hc.wait
  have hol := hc.ops
  clear hi0 hz0 hz1 hz2 hS hc hY hR h
  obtain ⟨pa, ca, rfl, -⟩ := own_slice (show Bk enI 3 65 1 v0 Y.i1 _ from hb0.say (p := bkP enI 3 65 1 v0 Y.i1) (by simp [bkL])).row
  obtain ⟨pb, cb, rfl, -⟩ := own_slice (show Bk enI 3 65 1 v1 Y.i2 _ from hb0.say (p := bkP enI 3 65 1 v1 Y.i2) (by simp [bkL])).row
  have HB0 := Hid.mk' hb0
  have HNa := Hid.mk' (show Y.i1.length ≤ 8000000 by have := HY.out.li; have := HY.out.lo; have := HY.out.lh; omega)
  have HNb := Hid.mk' (show Y.i2.length ≤ 8000000 by have := HY.out.l2; omega)
  clear hb0
  unfold actC at *
  go_enter Try.func12, Try.ntmps12
  go_wp2
  generalize W.alloc _ = W0 at *
  generalize W.heap.size = g0 at *
  clear hA
  have hUA : Both w W0.drew d g s t (boxP gy (.cells #[(.slice pa Y.i1.length ca), (.slice pb Y.i2.length cb), v2, v3, v4, v5] 39) :: bkP enI 3 65 1 (.slice pa Y.i1.length ca) Y.i1 :: (boxP g0 (.cells #[.int .i64 o, .int .i64 7, .int .i64 pos, pv, .int .i64 n, kv] 44) :: [] ++ (bkP enI 3 65 1 (.slice pb Y.i2.length cb) Y.i2 :: bkP recCells 108 67 1026 v2 Y.o1 :: bkP recCells 108 67 1026 v3 Y.o2 :: bkP celRow 85 30 1025 v4 Y.h1 :: bkP celRow 85 30 1025 v5 Y.h2 :: l))) := HB0.out.drew.perm (perm_up _ _ [] _ _)
  have HUA := Hid.mk' hUA
  have HCeA : Hid (W0.drew.cell? ⟨gy, 0, none⟩ = some (.slice pa Y.i1.length ca)) := Joins.cell_of_block (hUA.at (List.mem_cons_self ..)) 0
  clear HB0 hUA
  refine wp_region_ph (A := fun _ => True) (B := fun u => u.cell? ⟨gy, 0, none⟩ = some (.slice pa Y.i1.length ca)) 8 [(0, 0), (1, 0), (2, 0), (3, 0), (4, 1), (5, 0), (6, 2), (7, 2), (8, 2), (9, 0), (10, 0), (11, 2)] (by kernel_rfl) rfl (by kernel_rfl) (fun d _ _ _ _ h => by cases d <;> exact h) trivial HCeA.out ?_
  generalize W0.drew = XA at *
  simp only [inOrdC, List.getElem?_cons_zero, List.getElem?_cons_succ]
  refine wpPh_yield (v := .pointer (some ⟨gy, 0, none⟩)) rfl (fun u _ => exec_mv rfl rfl) ?_
  simp only [Act.put, List.setIfInBounds_toArray, List.set_cons_succ, List.set_cons_zero]
  refine wpPh_yield (v := .pointer (some ⟨gy, 0, none⟩)) rfl (fun u _ => exec_mv rfl rfl) ?_
  simp only [Act.put, List.setIfInBounds_toArray, List.set_cons_succ, List.set_cons_zero]
  refine wpPh_yield (v := .pointer (some ⟨gy, 0, none⟩)) rfl (fun u _ => by go_simp) ?_
  simp only [Act.put, List.setIfInBounds_toArray, List.set_cons_succ, List.set_cons_zero]
  refine wpPh_yield (v := .pointer (some ⟨gy, 0, none⟩)) rfl (fun u _ => by go_simp) ?_
  simp only [Act.put, List.setIfInBounds_toArray, List.set_cons_succ, List.set_cons_zero]
  refine wpPh_read (v := (.slice pa Y.i1.length ca)) rfl (fun u _ hB => by have hB' : u.cell? ⟨gy, 0, none⟩ = some (.slice pa Y.i1.length ca) := hB; go_simp) ?_
  simp only [Act.put, List.setIfInBounds_toArray, List.set_cons_succ, List.set_cons_zero]
  refine wpPh_yield (v := .pointer (some ⟨d, 0, none⟩)) rfl (fun u _ => exec_mv rfl rfl) ?_
  simp only [Act.put, List.setIfInBounds_toArray, List.set_cons_succ, List.set_cons_zero]
  refine wpPh_call rfl 25 _ _ rfl Try.call25 [.pointer (some ⟨d, 0, none⟩)] rfl ?_
  refine (both_pending HUA.out (by omega)).mono ?_
  rintro e ZA ⟨bA, cA, rfl, hoA, hbA⟩
  have hLA := HUA.out.list (x := (⟨some ⟨bA, 0, none⟩, cA, (s.wait.map (·.1))⟩ : Tl Int)) (en := enI) hbA hoA
  have kA := hLA.at (b := gy) (List.mem_cons_of_mem _ (List.mem_cons_self ..))
  have hL2A := hLA.later (below_new ZA (.cells #[Value.slice (some ⟨bA, 0, none⟩) (s.wait.map (·.1)).length cA] 65))
  have k2A := hL2A.at (b := gy) (List.mem_cons_of_mem _ (List.mem_cons_self ..))
  obtain ⟨pA, qA, QA, hrA, hMA, hNA⟩ := Both.tells (st := 35) Try.underlying35 HI.out.1 HI.out.2.1 HI.out.2.2.1 HI.out.2.2.2 (by decide) hLA HNa.out 35 0
  have k3A := hMA.at (b := gy) (List.mem_cons_self ..)
  have c3A : QA.cell? ⟨gy, 0, none⟩ = some (.slice pa Y.i1.length ca) := Joins.cell_of_block k3A 0
  have f3A : QA.frozen? ⟨gy, 0, none⟩ = false := Joins.unfrozen_of_block k3A 0
  have HKA := Hid.mk' (And.intro (Joins.cell_of_block kA 0) (Joins.cell_of_block k2A 0))
  have HNA := Hid.mk' hNA
  clear hLA hL2A kA k2A k3A hMA hNA hoA hbA HCeA HUA
  unfold Tl.v at hrA
  simp only at hrA
  generalize hxA : (s.wait.map (·.1)).length = lxA at hrA HKA ⊢
  refine ⟨_, rfl, ⟨trivial, fun _ => HKA.out.1⟩, ?_⟩
  simp only [Act.put, List.setIfInBounds_toArray, List.set_cons_succ, List.set_cons_zero]
  refine wpPh_make (v := .slice (some ⟨ZA.heap.size, 0, none⟩) 1 1) (w' := ZA.alloc (.cells #[.slice (some ⟨bA, 0, none⟩) lxA cA] 65)) rfl (by go_simp) ⟨trivial, fun _ => HKA.out.2⟩ ?_
  simp only [Act.put, List.setIfInBounds_toArray, List.set_cons_succ, List.set_cons_zero]
  refine wpPh_make (v := .slice pA (Y.i1.length + 1) qA) (w' := QA) rfl (exec_push rfl rfl rfl hrA) ⟨trivial, fun q => by cases q⟩ ?_
  simp only [Act.put, List.setIfInBounds_toArray, List.set_cons_succ, List.set_cons_zero]
  refine wpPh_yield (v := .pointer (some ⟨gy, 0, none⟩)) rfl (fun u _ => by go_simp) ?_
  simp only [Act.put, List.setIfInBounds_toArray, List.set_cons_succ, List.set_cons_zero]
  refine wpPh_yield (v := .pointer (some ⟨gy, 0, none⟩)) rfl (fun u _ => by go_simp) ?_
  simp only [Act.put, List.setIfInBounds_toArray, List.set_cons_succ, List.set_cons_zero]
  refine wpPh_do (w' := QA.setCell ⟨gy, 0, none⟩ (.slice pA (Y.i1.length + 1) qA)) rfl (by go_simp) ⟨trivial, fun q => by cases q⟩ ?_
  clear hrA c3A f3A HKA hxA
  generalize QA.setCell ⟨gy, 0, none⟩ (.slice pA (Y.i1.length + 1) qA) = YA at HNA ⊢
  simp only [wpPh]
  have HWA : Hid (Both w YA d g s t (boxP g0 (.cells #[.int .i64 o, .int .i64 7, .int .i64 pos, pv, .int .i64 n, kv] 44) :: boxP gy (.cells #[(.slice pA (Y.i1.length + 1) qA), (.slice pb Y.i2.length cb), v2, v3, v4, v5] 39) :: (bkP enI 3 65 1 (.slice pA (Y.i1.length + 1) qA) (Y.i1 ++ [(⟨some ⟨bA, 0, none⟩, cA, (s.wait.map (·.1))⟩ : Tl Int)]) :: bkP enI 3 65 1 (.slice pb Y.i2.length cb) Y.i2 :: bkP recCells 108 67 1026 v2 Y.o1 :: bkP recCells 108 67 1026 v3 Y.o2 :: bkP celRow 85 30 1025 v4 Y.h1 :: bkP celRow 85 30 1025 v5 Y.h2 :: l))) := HNA.out.perm (perm_up _ _ [] _ _).symm
  clear HNA
  go_wp2
  have hUB : Both w YA.drew d g s t (boxP gy (.cells #[(.slice pA (Y.i1.length + 1) qA), (.slice pb Y.i2.length cb), v2, v3, v4, v5] 39) :: bkP enI 3 65 1 (.slice pb Y.i2.length cb) Y.i2 :: (boxP g0 (.cells #[.int .i64 o, .int .i64 7, .int .i64 pos, pv, .int .i64 n, kv] 44) :: [bkP enI 3 65 1 (.slice pA (Y.i1.length + 1) qA) (Y.i1 ++ [(⟨some ⟨bA, 0, none⟩, cA, (s.wait.map (·.1))⟩ : Tl Int)])] ++ (bkP recCells 108 67 1026 v2 Y.o1 :: bkP recCells 108 67 1026 v3 Y.o2 :: bkP celRow 85 30 1025 v4 Y.h1 :: bkP celRow 85 30 1025 v5 Y.h2 :: l))) := HWA.out.drew.perm (perm_up _ _ [bkP enI 3 65 1 (.slice pA (Y.i1.length + 1) qA) (Y.i1 ++ [(⟨some ⟨bA, 0, none⟩, cA, (s.wait.map (·.1))⟩ : Tl Int)])] _ _)
  have HUB := Hid.mk' hUB
  have HCeB : Hid (YA.drew.cell? ⟨gy, 1, none⟩ = some (.slice pb Y.i2.length cb)) := Joins.cell_of_block (hUB.at (List.mem_cons_self ..)) 1
  clear HWA hUB
  refine wp_region_ph (A := fun _ => True) (B := fun u => u.cell? ⟨gy, 1, none⟩ = some (.slice pb Y.i2.length cb)) 8 [(0, 0), (1, 0), (2, 0), (3, 0), (4, 1), (5, 0), (6, 2), (7, 2), (8, 2), (9, 0), (10, 0), (11, 2)] (by kernel_rfl) rfl (by kernel_rfl) (fun d _ _ _ _ h => by cases d <;> exact h) trivial HCeB.out ?_
  generalize YA.drew = XB at *
  simp only [inOrdC, List.getElem?_cons_zero, List.getElem?_cons_succ]
  refine wpPh_yield (v := .pointer (some ⟨gy, 0, none⟩)) rfl (fun u _ => exec_mv rfl rfl) ?_
  simp only [Act.put, List.setIfInBounds_toArray, List.set_cons_succ, List.set_cons_zero]
  refine wpPh_yield (v := .pointer (some ⟨gy, 0, none⟩)) rfl (fun u _ => exec_mv rfl rfl) ?_
  simp only [Act.put, List.setIfInBounds_toArray, List.set_cons_succ, List.set_cons_zero]
  refine wpPh_yield (v := .pointer (some ⟨gy, 0, none⟩)) rfl (fun u _ => by go_simp) ?_
  simp only [Act.put, List.setIfInBounds_toArray, List.set_cons_succ, List.set_cons_zero]
  refine wpPh_yield (v := .pointer (some ⟨gy, 1, none⟩)) rfl (fun u _ => by go_simp) ?_
  simp only [Act.put, List.setIfInBounds_toArray, List.set_cons_succ, List.set_cons_zero]
  refine wpPh_read (v := (.slice pb Y.i2.length cb)) rfl (fun u _ hB => by have hB' : u.cell? ⟨gy, 1, none⟩ = some (.slice pb Y.i2.length cb) := hB; go_simp) ?_
  simp only [Act.put, List.setIfInBounds_toArray, List.set_cons_succ, List.set_cons_zero]
  refine wpPh_yield (v := .pointer (some ⟨g, 0, none⟩)) rfl (fun u _ => exec_mv rfl rfl) ?_
  simp only [Act.put, List.setIfInBounds_toArray, List.set_cons_succ, List.set_cons_zero]
  refine wpPh_call rfl 49 _ _ rfl Try.call49 [.pointer (some ⟨g, 0, none⟩)] rfl ?_
  refine (both_rpending HUB.out HR.out.wait).mono ?_
  rintro e ZB ⟨bB, cB, rfl, hoB, hbB⟩
  have hLB := HUB.out.list (x := (⟨bB, cB, (t.wait.map (·.1))⟩ : Tl Int)) (en := enI) hbB hoB
  have kB := hLB.at (b := gy) (List.mem_cons_of_mem _ (List.mem_cons_self ..))
  have hL2B := hLB.later (below_new ZB (.cells #[Value.slice (bB) (t.wait.map (·.1)).length cB] 65))
  have k2B := hL2B.at (b := gy) (List.mem_cons_of_mem _ (List.mem_cons_self ..))
  obtain ⟨pB, qB, QB, hrB, hMB, hNB⟩ := Both.tells (st := 35) Try.underlying35 HI.out.1 HI.out.2.1 HI.out.2.2.1 HI.out.2.2.2 (by decide) hLB HNb.out 35 1
  have k3B := hMB.at (b := gy) (List.mem_cons_self ..)
  have c3B : QB.cell? ⟨gy, 1, none⟩ = some (.slice pb Y.i2.length cb) := Joins.cell_of_block k3B 1
  have f3B : QB.frozen? ⟨gy, 1, none⟩ = false := Joins.unfrozen_of_block k3B 1
  have HKB := Hid.mk' (And.intro (Joins.cell_of_block kB 1) (Joins.cell_of_block k2B 1))
  have HNB := Hid.mk' hNB
  clear hLB hL2B kB k2B k3B hMB hNB hoB hbB HCeB HUB
  unfold Tl.v at hrB
  simp only at hrB
  generalize hxB : (t.wait.map (·.1)).length = lxB at hrB HKB ⊢
  refine ⟨_, rfl, ⟨trivial, fun _ => HKB.out.1⟩, ?_⟩
  simp only [Act.put, List.setIfInBounds_toArray, List.set_cons_succ, List.set_cons_zero]
  refine wpPh_make (v := .slice (some ⟨ZB.heap.size, 0, none⟩) 1 1) (w' := ZB.alloc (.cells #[.slice (bB) lxB cB] 65)) rfl (by go_simp) ⟨trivial, fun _ => HKB.out.2⟩ ?_
  simp only [Act.put, List.setIfInBounds_toArray, List.set_cons_succ, List.set_cons_zero]
  refine wpPh_make (v := .slice pB (Y.i2.length + 1) qB) (w' := QB) rfl (exec_push rfl rfl rfl hrB) ⟨trivial, fun q => by cases q⟩ ?_
  simp only [Act.put, List.setIfInBounds_toArray, List.set_cons_succ, List.set_cons_zero]
  refine wpPh_yield (v := .pointer (some ⟨gy, 0, none⟩)) rfl (fun u _ => by go_simp) ?_
  simp only [Act.put, List.setIfInBounds_toArray, List.set_cons_succ, List.set_cons_zero]
  refine wpPh_yield (v := .pointer (some ⟨gy, 1, none⟩)) rfl (fun u _ => by go_simp) ?_
  simp only [Act.put, List.setIfInBounds_toArray, List.set_cons_succ, List.set_cons_zero]
  refine wpPh_do (w' := QB.setCell ⟨gy, 1, none⟩ (.slice pB (Y.i2.length + 1) qB)) rfl (by go_simp) ⟨trivial, fun q => by cases q⟩ ?_
  clear hrB c3B f3B HKB hxB
  generalize QB.setCell ⟨gy, 1, none⟩ (.slice pB (Y.i2.length + 1) qB) = YB at HNB ⊢
  simp only [wpPh]
  have HWB : Hid (Both w YB d g s t (boxP g0 (.cells #[.int .i64 o, .int .i64 7, .int .i64 pos, pv, .int .i64 n, kv] 44) :: boxP gy (.cells #[(.slice pA (Y.i1.length + 1) qA), (.slice pB (Y.i2.length + 1) qB), v2, v3, v4, v5] 39) :: (bkP enI 3 65 1 (.slice pA (Y.i1.length + 1) qA) (Y.i1 ++ [(⟨some ⟨bA, 0, none⟩, cA, (s.wait.map (·.1))⟩ : Tl Int)]) :: bkP enI 3 65 1 (.slice pB (Y.i2.length + 1) qB) (Y.i2 ++ [(⟨bB, cB, (t.wait.map (·.1))⟩ : Tl Int)]) :: bkP recCells 108 67 1026 v2 Y.o1 :: bkP recCells 108 67 1026 v3 Y.o2 :: bkP celRow 85 30 1025 v4 Y.h1 :: bkP celRow 85 30 1025 v5 Y.h2 :: l))) := HNB.out.perm (perm_up _ _ [bkP enI 3 65 1 (.slice pA (Y.i1.length + 1) qA) (Y.i1 ++ [(⟨some ⟨bA, 0, none⟩, cA, (s.wait.map (·.1))⟩ : Tl Int)])] _ _).symm
  clear HNB
  have HP : Hid (ActY w d g gy m l YB) := ⟨_, _, _, _, _, _, ⟨(Y.i1 ++ [(⟨some ⟨bA, 0, none⟩, cA, (s.wait.map (·.1))⟩ : Tl Int)]), (Y.i2 ++ [(⟨bB, cB, (t.wait.map (·.1))⟩ : Tl Int)]), Y.o1, Y.o2, Y.h1, Y.h2⟩, s, t, HWB.out.pop, HS.out, HC.out.mono (by omega), by
    have y := HY.out
    refine ⟨?_, y.o, y.h, ?_, by have := y.lo; show Y.o1.length ≤ m + 1; omega, by have := y.lh; show Y.h1.length ≤ m + 1; omega, fun x hx => ?_, y.eo, y.eh⟩
    · show (Y.i1 ++ _).map (·.l) = (Y.i2 ++ _).map (·.l)
      rw [List.map_append, List.map_append, y.i]
      simp only [List.map_cons, List.map_nil, HS.out.wait]
    · have := y.li
      show (Y.i1 ++ _).length ≤ m + 1
      simp
      omega
    · rcases List.mem_append.1 hx with hx | hx
      · exact y.ei x hx
      · simp only [List.mem_singleton] at hx
        subst hx
        show (s.wait.map (·.1)).length ≤ 7000000
        rw [List.length_map]
        omega⟩
  clear HWB HY HS HC HR HI
  go_wp2
  go_ret
  exact ⟨rfl, HP.out⟩
set_option maxRecDepth 20000 in
set_option maxHeartbeats 2000000 in
theorem act_history (h : Both w W d g s t (bkL gy v0 v1 v2 v3 v4 v5 Y l)) (hS : Sim t s) (hc : Cap s m) (hY : Y.Ok m) (hm : m ≤ 6000000) (o pos n : Int) (pv kv : Value) :
    Calls Try.prog 12 #[.pointer (some ⟨gy, 0, none⟩), .pointer (some ⟨d, 0, none⟩), .pointer (some ⟨g, 0, none⟩), .agg (actC o 8 pos pv n kv)] W fun e W' => e = .returned (.bool true) ∧ ActY w d g gy m l W' := by
  have hb0 := h.box (.cells (actC o 8 pos pv n kv) 44)
  have hR := hS.room h.ok hc (by omega)
  have hA := heap_alloc_new W (.cells (actC o 8 pos pv n kv) 44)
  obtain ⟨i0, hi0, hz0, hz1, hz2⟩ := info_parts inf67
  have HI := Hid.mk' (And.intro hi0 (And.intro hz0 (And.intro hz1 hz2)))
  have HS := Hid.mk' hS
  have HC := Hid.mk' hc
  have HY := Hid.mk' hY
  have HR := Hid.mk' hR
  have hwl := hc.wait
  have hol := hc.ops
  clear hi0 hz0 hz1 hz2 hS hc hY hR h
  obtain ⟨pa, ca, rfl, -⟩ := own_slice (show Bk recCells 108 67 1026 v2 Y.o1 _ from hb0.say (p := bkP recCells 108 67 1026 v2 Y.o1) (by simp [bkL])).row
  obtain ⟨pb, cb, rfl, -⟩ := own_slice (show Bk recCells 108 67 1026 v3 Y.o2 _ from hb0.say (p := bkP recCells 108 67 1026 v3 Y.o2) (by simp [bkL])).row
  have HB0 := Hid.mk' hb0
  have HNa := Hid.mk' (show Y.o1.length ≤ 8000000 by have := HY.out.li; have := HY.out.lo; have := HY.out.lh; omega)
  have HNb := Hid.mk' (show Y.o2.length ≤ 8000000 by have := HY.out.l2; omega)
  clear hb0
  unfold actC at *
  go_enter Try.func12, Try.ntmps12
  go_wp2
  generalize W.alloc _ = W0 at *
  generalize W.heap.size = g0 at *
  clear hA
  have hUA : Both w W0.drew d g s t (boxP gy (.cells #[v0, v1, (.slice pa Y.o1.length ca), (.slice pb Y.o2.length cb), v4, v5] 39) :: bkP recCells 108 67 1026 (.slice pa Y.o1.length ca) Y.o1 :: (boxP g0 (.cells #[.int .i64 o, .int .i64 8, .int .i64 pos, pv, .int .i64 n, kv] 44) :: [bkP enI 3 65 1 v0 Y.i1, bkP enI 3 65 1 v1 Y.i2] ++ (bkP recCells 108 67 1026 (.slice pb Y.o2.length cb) Y.o2 :: bkP celRow 85 30 1025 v4 Y.h1 :: bkP celRow 85 30 1025 v5 Y.h2 :: l))) := HB0.out.drew.perm (perm_up _ _ [bkP enI 3 65 1 v0 Y.i1, bkP enI 3 65 1 v1 Y.i2] _ _)
  have HUA := Hid.mk' hUA
  have HCeA : Hid (W0.drew.cell? ⟨gy, 2, none⟩ = some (.slice pa Y.o1.length ca)) := Joins.cell_of_block (hUA.at (List.mem_cons_self ..)) 2
  clear HB0 hUA
  refine wp_region_ph (A := fun _ => True) (B := fun u => u.cell? ⟨gy, 2, none⟩ = some (.slice pa Y.o1.length ca)) 8 [(0, 0), (1, 0), (2, 0), (3, 0), (4, 1), (5, 0), (6, 2), (7, 2), (8, 2), (9, 0), (10, 0), (11, 2)] (by kernel_rfl) rfl (by kernel_rfl) (fun d _ _ _ _ h => by cases d <;> exact h) trivial HCeA.out ?_
  generalize W0.drew = XA at *
  simp only [inOrdC, List.getElem?_cons_zero, List.getElem?_cons_succ]
  refine wpPh_yield (v := .pointer (some ⟨gy, 0, none⟩)) rfl (fun u _ => exec_mv rfl rfl) ?_
  simp only [Act.put, List.setIfInBounds_toArray, List.set_cons_succ, List.set_cons_zero]
  refine wpPh_yield (v := .pointer (some ⟨gy, 0, none⟩)) rfl (fun u _ => exec_mv rfl rfl) ?_
  simp only [Act.put, List.setIfInBounds_toArray, List.set_cons_succ, List.set_cons_zero]
  refine wpPh_yield (v := .pointer (some ⟨gy, 0, none⟩)) rfl (fun u _ => by go_simp) ?_
  simp only [Act.put, List.setIfInBounds_toArray, List.set_cons_succ, List.set_cons_zero]
  refine wpPh_yield (v := .pointer (some ⟨gy, 2, none⟩)) rfl (fun u _ => by go_simp) ?_
  simp only [Act.put, List.setIfInBounds_toArray, List.set_cons_succ, List.set_cons_zero]
  refine wpPh_read (v := (.slice pa Y.o1.length ca)) rfl (fun u _ hB => by have hB' : u.cell? ⟨gy, 2, none⟩ = some (.slice pa Y.o1.length ca) := hB; go_simp) ?_
  simp only [Act.put, List.setIfInBounds_toArray, List.set_cons_succ, List.set_cons_zero]
  refine wpPh_yield (v := .pointer (some ⟨d, 0, none⟩)) rfl (fun u _ => exec_mv rfl rfl) ?_
  simp only [Act.put, List.setIfInBounds_toArray, List.set_cons_succ, List.set_cons_zero]
  refine wpPh_call rfl 26 _ _ rfl Try.call26 [.pointer (some ⟨d, 0, none⟩)] rfl ?_
  refine (both_history HUA.out (by omega)).mono ?_
  rintro e ZA ⟨bA, cA, rfl, hoA, hbA⟩
  have hLA := HUA.out.list (x := (⟨some ⟨bA, 0, none⟩, cA, s.ops⟩ : Tl Rec)) (en := recCells) hbA hoA
  have kA := hLA.at (b := gy) (List.mem_cons_of_mem _ (List.mem_cons_self ..))
  have hL2A := hLA.later (below_new ZA (.cells #[Value.slice (some ⟨bA, 0, none⟩) s.ops.length cA] 67))
  have k2A := hL2A.at (b := gy) (List.mem_cons_of_mem _ (List.mem_cons_self ..))
  obtain ⟨pA, qA, QA, hrA, hMA, hNA⟩ := Both.tells (st := 36) Try.underlying36 HI.out.1 HI.out.2.1 HI.out.2.2.1 HI.out.2.2.2 (by decide) hLA HNa.out 36 2
  have k3A := hMA.at (b := gy) (List.mem_cons_self ..)
  have c3A : QA.cell? ⟨gy, 2, none⟩ = some (.slice pa Y.o1.length ca) := Joins.cell_of_block k3A 2
  have f3A : QA.frozen? ⟨gy, 2, none⟩ = false := Joins.unfrozen_of_block k3A 2
  have HKA := Hid.mk' (And.intro (Joins.cell_of_block kA 2) (Joins.cell_of_block k2A 2))
  have HNA := Hid.mk' hNA
  clear hLA hL2A kA k2A k3A hMA hNA hoA hbA HCeA HUA
  unfold Tl.v at hrA
  simp only at hrA
  generalize hxA : s.ops.length = lxA at hrA HKA ⊢
  refine ⟨_, rfl, ⟨trivial, fun _ => HKA.out.1⟩, ?_⟩
  simp only [Act.put, List.setIfInBounds_toArray, List.set_cons_succ, List.set_cons_zero]
  refine wpPh_make (v := .slice (some ⟨ZA.heap.size, 0, none⟩) 1 1) (w' := ZA.alloc (.cells #[.slice (some ⟨bA, 0, none⟩) lxA cA] 67)) rfl (by go_simp) ⟨trivial, fun _ => HKA.out.2⟩ ?_
  simp only [Act.put, List.setIfInBounds_toArray, List.set_cons_succ, List.set_cons_zero]
  refine wpPh_make (v := .slice pA (Y.o1.length + 1) qA) (w' := QA) rfl (exec_push rfl rfl rfl hrA) ⟨trivial, fun q => by cases q⟩ ?_
  simp only [Act.put, List.setIfInBounds_toArray, List.set_cons_succ, List.set_cons_zero]
  refine wpPh_yield (v := .pointer (some ⟨gy, 0, none⟩)) rfl (fun u _ => by go_simp) ?_
  simp only [Act.put, List.setIfInBounds_toArray, List.set_cons_succ, List.set_cons_zero]
  refine wpPh_yield (v := .pointer (some ⟨gy, 2, none⟩)) rfl (fun u _ => by go_simp) ?_
  simp only [Act.put, List.setIfInBounds_toArray, List.set_cons_succ, List.set_cons_zero]
  refine wpPh_do (w' := QA.setCell ⟨gy, 2, none⟩ (.slice pA (Y.o1.length + 1) qA)) rfl (by go_simp) ⟨trivial, fun q => by cases q⟩ ?_
  clear hrA c3A f3A HKA hxA
  generalize QA.setCell ⟨gy, 2, none⟩ (.slice pA (Y.o1.length + 1) qA) = YA at HNA ⊢
  simp only [wpPh]
  have HWA : Hid (Both w YA d g s t (boxP g0 (.cells #[.int .i64 o, .int .i64 8, .int .i64 pos, pv, .int .i64 n, kv] 44) :: boxP gy (.cells #[v0, v1, (.slice pA (Y.o1.length + 1) qA), (.slice pb Y.o2.length cb), v4, v5] 39) :: (bkP enI 3 65 1 v0 Y.i1 :: bkP enI 3 65 1 v1 Y.i2 :: bkP recCells 108 67 1026 (.slice pA (Y.o1.length + 1) qA) (Y.o1 ++ [(⟨some ⟨bA, 0, none⟩, cA, s.ops⟩ : Tl Rec)]) :: bkP recCells 108 67 1026 (.slice pb Y.o2.length cb) Y.o2 :: bkP celRow 85 30 1025 v4 Y.h1 :: bkP celRow 85 30 1025 v5 Y.h2 :: l))) := HNA.out.perm (perm_up _ _ [bkP enI 3 65 1 v0 Y.i1, bkP enI 3 65 1 v1 Y.i2] _ _).symm
  clear HNA
  go_wp2
  have hUB : Both w YA.drew d g s t (boxP gy (.cells #[v0, v1, (.slice pA (Y.o1.length + 1) qA), (.slice pb Y.o2.length cb), v4, v5] 39) :: bkP recCells 108 67 1026 (.slice pb Y.o2.length cb) Y.o2 :: (boxP g0 (.cells #[.int .i64 o, .int .i64 8, .int .i64 pos, pv, .int .i64 n, kv] 44) :: [bkP enI 3 65 1 v0 Y.i1, bkP enI 3 65 1 v1 Y.i2, bkP recCells 108 67 1026 (.slice pA (Y.o1.length + 1) qA) (Y.o1 ++ [(⟨some ⟨bA, 0, none⟩, cA, s.ops⟩ : Tl Rec)])] ++ (bkP celRow 85 30 1025 v4 Y.h1 :: bkP celRow 85 30 1025 v5 Y.h2 :: l))) := HWA.out.drew.perm (perm_up _ _ [bkP enI 3 65 1 v0 Y.i1, bkP enI 3 65 1 v1 Y.i2, bkP recCells 108 67 1026 (.slice pA (Y.o1.length + 1) qA) (Y.o1 ++ [(⟨some ⟨bA, 0, none⟩, cA, s.ops⟩ : Tl Rec)])] _ _)
  have HUB := Hid.mk' hUB
  have HCeB : Hid (YA.drew.cell? ⟨gy, 3, none⟩ = some (.slice pb Y.o2.length cb)) := Joins.cell_of_block (hUB.at (List.mem_cons_self ..)) 3
  clear HWA hUB
  refine wp_region_ph (A := fun _ => True) (B := fun u => u.cell? ⟨gy, 3, none⟩ = some (.slice pb Y.o2.length cb)) 8 [(0, 0), (1, 0), (2, 0), (3, 0), (4, 1), (5, 0), (6, 2), (7, 2), (8, 2), (9, 0), (10, 0), (11, 2)] (by kernel_rfl) rfl (by kernel_rfl) (fun d _ _ _ _ h => by cases d <;> exact h) trivial HCeB.out ?_
  generalize YA.drew = XB at *
  simp only [inOrdC, List.getElem?_cons_zero, List.getElem?_cons_succ]
  refine wpPh_yield (v := .pointer (some ⟨gy, 0, none⟩)) rfl (fun u _ => exec_mv rfl rfl) ?_
  simp only [Act.put, List.setIfInBounds_toArray, List.set_cons_succ, List.set_cons_zero]
  refine wpPh_yield (v := .pointer (some ⟨gy, 0, none⟩)) rfl (fun u _ => exec_mv rfl rfl) ?_
  simp only [Act.put, List.setIfInBounds_toArray, List.set_cons_succ, List.set_cons_zero]
  refine wpPh_yield (v := .pointer (some ⟨gy, 0, none⟩)) rfl (fun u _ => by go_simp) ?_
  simp only [Act.put, List.setIfInBounds_toArray, List.set_cons_succ, List.set_cons_zero]
  refine wpPh_yield (v := .pointer (some ⟨gy, 3, none⟩)) rfl (fun u _ => by go_simp) ?_
  simp only [Act.put, List.setIfInBounds_toArray, List.set_cons_succ, List.set_cons_zero]
  refine wpPh_read (v := (.slice pb Y.o2.length cb)) rfl (fun u _ hB => by have hB' : u.cell? ⟨gy, 3, none⟩ = some (.slice pb Y.o2.length cb) := hB; go_simp) ?_
  simp only [Act.put, List.setIfInBounds_toArray, List.set_cons_succ, List.set_cons_zero]
  refine wpPh_yield (v := .pointer (some ⟨g, 0, none⟩)) rfl (fun u _ => exec_mv rfl rfl) ?_
  simp only [Act.put, List.setIfInBounds_toArray, List.set_cons_succ, List.set_cons_zero]
  refine wpPh_call rfl 50 _ _ rfl Try.call50 [.pointer (some ⟨g, 0, none⟩)] rfl ?_
  refine (both_rhistory HUB.out HR.out.ops).mono ?_
  rintro e ZB ⟨bB, cB, rfl, hoB, hbB⟩
  have hLB := HUB.out.list (x := (⟨bB, cB, t.ops⟩ : Tl Rec)) (en := recCells) hbB hoB
  have kB := hLB.at (b := gy) (List.mem_cons_of_mem _ (List.mem_cons_self ..))
  have hL2B := hLB.later (below_new ZB (.cells #[Value.slice (bB) t.ops.length cB] 67))
  have k2B := hL2B.at (b := gy) (List.mem_cons_of_mem _ (List.mem_cons_self ..))
  obtain ⟨pB, qB, QB, hrB, hMB, hNB⟩ := Both.tells (st := 36) Try.underlying36 HI.out.1 HI.out.2.1 HI.out.2.2.1 HI.out.2.2.2 (by decide) hLB HNb.out 36 3
  have k3B := hMB.at (b := gy) (List.mem_cons_self ..)
  have c3B : QB.cell? ⟨gy, 3, none⟩ = some (.slice pb Y.o2.length cb) := Joins.cell_of_block k3B 3
  have f3B : QB.frozen? ⟨gy, 3, none⟩ = false := Joins.unfrozen_of_block k3B 3
  have HKB := Hid.mk' (And.intro (Joins.cell_of_block kB 3) (Joins.cell_of_block k2B 3))
  have HNB := Hid.mk' hNB
  clear hLB hL2B kB k2B k3B hMB hNB hoB hbB HCeB HUB
  unfold Tl.v at hrB
  simp only at hrB
  generalize hxB : t.ops.length = lxB at hrB HKB ⊢
  refine ⟨_, rfl, ⟨trivial, fun _ => HKB.out.1⟩, ?_⟩
  simp only [Act.put, List.setIfInBounds_toArray, List.set_cons_succ, List.set_cons_zero]
  refine wpPh_make (v := .slice (some ⟨ZB.heap.size, 0, none⟩) 1 1) (w' := ZB.alloc (.cells #[.slice (bB) lxB cB] 67)) rfl (by go_simp) ⟨trivial, fun _ => HKB.out.2⟩ ?_
  simp only [Act.put, List.setIfInBounds_toArray, List.set_cons_succ, List.set_cons_zero]
  refine wpPh_make (v := .slice pB (Y.o2.length + 1) qB) (w' := QB) rfl (exec_push rfl rfl rfl hrB) ⟨trivial, fun q => by cases q⟩ ?_
  simp only [Act.put, List.setIfInBounds_toArray, List.set_cons_succ, List.set_cons_zero]
  refine wpPh_yield (v := .pointer (some ⟨gy, 0, none⟩)) rfl (fun u _ => by go_simp) ?_
  simp only [Act.put, List.setIfInBounds_toArray, List.set_cons_succ, List.set_cons_zero]
  refine wpPh_yield (v := .pointer (some ⟨gy, 3, none⟩)) rfl (fun u _ => by go_simp) ?_
  simp only [Act.put, List.setIfInBounds_toArray, List.set_cons_succ, List.set_cons_zero]
  refine wpPh_do (w' := QB.setCell ⟨gy, 3, none⟩ (.slice pB (Y.o2.length + 1) qB)) rfl (by go_simp) ⟨trivial, fun q => by cases q⟩ ?_
  clear hrB c3B f3B HKB hxB
  generalize QB.setCell ⟨gy, 3, none⟩ (.slice pB (Y.o2.length + 1) qB) = YB at HNB ⊢
  simp only [wpPh]
  have HWB : Hid (Both w YB d g s t (boxP g0 (.cells #[.int .i64 o, .int .i64 8, .int .i64 pos, pv, .int .i64 n, kv] 44) :: boxP gy (.cells #[v0, v1, (.slice pA (Y.o1.length + 1) qA), (.slice pB (Y.o2.length + 1) qB), v4, v5] 39) :: (bkP enI 3 65 1 v0 Y.i1 :: bkP enI 3 65 1 v1 Y.i2 :: bkP recCells 108 67 1026 (.slice pA (Y.o1.length + 1) qA) (Y.o1 ++ [(⟨some ⟨bA, 0, none⟩, cA, s.ops⟩ : Tl Rec)]) :: bkP recCells 108 67 1026 (.slice pB (Y.o2.length + 1) qB) (Y.o2 ++ [(⟨bB, cB, t.ops⟩ : Tl Rec)]) :: bkP celRow 85 30 1025 v4 Y.h1 :: bkP celRow 85 30 1025 v5 Y.h2 :: l))) := HNB.out.perm (perm_up _ _ [bkP enI 3 65 1 v0 Y.i1, bkP enI 3 65 1 v1 Y.i2, bkP recCells 108 67 1026 (.slice pA (Y.o1.length + 1) qA) (Y.o1 ++ [(⟨some ⟨bA, 0, none⟩, cA, s.ops⟩ : Tl Rec)])] _ _).symm
  clear HNB
  have HP : Hid (ActY w d g gy m l YB) := ⟨_, _, _, _, _, _, ⟨Y.i1, Y.i2, (Y.o1 ++ [(⟨some ⟨bA, 0, none⟩, cA, s.ops⟩ : Tl Rec)]), (Y.o2 ++ [(⟨bB, cB, t.ops⟩ : Tl Rec)]), Y.h1, Y.h2⟩, s, t, HWB.out.pop, HS.out, HC.out.mono (by omega), by
    have y := HY.out
    refine ⟨y.i, ?_, y.h, by have := y.li; show Y.i1.length ≤ m + 1; omega, ?_, by have := y.lh; show Y.h1.length ≤ m + 1; omega, y.ei, fun x hx => ?_, y.eh⟩
    · show (Y.o1 ++ _).map (·.l) = (Y.o2 ++ _).map (·.l)
      rw [List.map_append, List.map_append, y.o]
      simp only [List.map_cons, List.map_nil, HS.out.ops]
    · have := y.lo
      show (Y.o1 ++ _).length ≤ m + 1
      simp
      omega
    · rcases List.mem_append.1 hx with hx | hx
      · exact y.eo x hx
      · simp only [List.mem_singleton] at hx
        subst hx
        show s.ops.length ≤ 7000000
        omega⟩
  clear HWB HY HS HC HR HI
  go_wp2
  go_ret
  exact ⟨rfl, HP.out⟩
end Go.Proofs.Ytembocfghkmieaa
/- act of both disks: Image: its list lies in new memory, and stands in the book; no condition but that numbers do not pass their greatest. -/
namespace Go.Proofs.Ytembocfghkmieaa
open Go.RowKit Go.Maps
theorem perm_im2 {β : Type} (a b e : β) (u : List β) (c : β) (r : List β) : (a :: b :: e :: (u ++ c :: r)).Perm (e :: c :: (a :: b :: u ++ r)) :=
  (List.perm_middle (l₁ := [a, b])).trans (.cons _ (List.perm_middle (l₁ := a :: b :: u)))
theorem perm_im {β : Type} (a x b e : β) (u : List β) (c : β) (r : List β) : (a :: x :: b :: e :: (u ++ c :: r)).Perm (x :: e :: c :: (a :: b :: u ++ r)) :=
  (List.Perm.swap x a _).trans (.cons _ (perm_im2 a b e u c r))
section
variable {o : Oper} {a : Act} {W : World} {x : Operand} {k : Int} {v : Value}
theorem exec_field0 (ho : o.op = .field 32 x 0) (hx : a.eval x = .agg #[.int .i64 k, v]) : (execOp a.eval o).run Try.prog W = .ok (.value (.int .i64 k)) W := by
  have e : (Instr.field 32 (.agg #[.int .i64 k, v]) 0).run Try.prog W = .ok (.int .i64 k) W := by kernel_rfl
  simp [execOp, ho, hx, e]
theorem exec_field1 {p : Option Addr} {n c : Nat} (ho : o.op = .field 32 x 1) (hx : a.eval x = .agg #[.int .i64 k, .slice p n c]) : (execOp a.eval o).run Try.prog W = .ok (.value (.slice p n c)) W := by
  have e : (Instr.field 32 (.agg #[.int .i64 k, .slice p n c]) 1).run Try.prog W = .ok (.slice p n c) W := by kernel_rfl
  simp [execOp, ho, hx, e]
end
variable {w W : World} {d g gy m : Nat} {s : St} {t : RSt} {l : List Part} {v0 v1 v2 v3 v4 v5 : Value} {Y : Book}
set_option maxRecDepth 20000 in
set_option maxHeartbeats 2000000 in
theorem act_image (h : Both w W d g s t (bkL gy v0 v1 v2 v3 v4 v5 Y l)) (hS : Sim t s) (hc : Cap s m) (hY : Y.Ok m) (hm : m ≤ 6000000) (o pos n : Int) (pv kv : Value) :
    Calls Try.prog 12 #[.pointer (some ⟨gy, 0, none⟩), .pointer (some ⟨d, 0, none⟩), .pointer (some ⟨g, 0, none⟩), .agg (actC o 9 pos pv n kv)] W fun e W' => e = .returned (.bool true) ∧ ActY w d g gy m l W' := by
  have hb0 := h.box (.cells (actC o 9 pos pv n kv) 44)
  have hR := hS.room h.ok hc (by omega)
  have hA := heap_alloc_new W (.cells (actC o 9 pos pv n kv) 44)
  obtain ⟨i0, hi0, hz0, hz1, hz2⟩ := info_parts inf30
  have HI := Hid.mk' (And.intro hi0 (And.intro hz0 (And.intro hz1 hz2)))
  have HS := Hid.mk' hS
  have HC := Hid.mk' hc
  have HY := Hid.mk' hY
  have HR := Hid.mk' hR
  have hwl := hc.wait
  have hol := hc.ops
  clear hi0 hz0 hz1 hz2 hS hc hY hR h
  obtain ⟨pa, ca, rfl, -⟩ := own_slice (show Bk celRow 85 30 1025 v4 Y.h1 _ from hb0.say (p := bkP celRow 85 30 1025 v4 Y.h1) (by simp [bkL])).row
  obtain ⟨pb, cb, rfl, -⟩ := own_slice (show Bk celRow 85 30 1025 v5 Y.h2 _ from hb0.say (p := bkP celRow 85 30 1025 v5 Y.h2) (by simp [bkL])).row
  have HB0 := Hid.mk' hb0
  have HNa := Hid.mk' (show Y.h1.length ≤ 8000000 by have := HY.out.li; have := HY.out.lo; have := HY.out.lh; omega)
  have HNb := Hid.mk' (show Y.h2.length ≤ 8000000 by have := HY.out.l2; omega)
  clear hb0
  unfold actC at *
  go_enter Try.func12, Try.ntmps12
  go_wp2_with (go_at_call 17; fail)
  generalize W.alloc _ = W0 at *
  generalize W.heap.size = g0 at *
  clear hA
  have hhl := HR.out.held
  refine (both_image HB0.out HS.out (by omega)).mono ?_
  rintro e ZA ⟨bA, cA, rfl, hoA, hbA⟩
  obtain ⟨lA, hlA⟩ : ∃ lA, t.held.length = lA := ⟨_, rfl⟩
  obtain ⟨nn, hnn⟩ : ∃ nn, s.n = nn := ⟨_, rfl⟩
  have hLA := (HB0.out.list (x := (⟨some ⟨bA, 0, none⟩, cA, t.held⟩ : Tl Cel)) (en := celRow) hbA hoA).box (.cells #[.int .i64 s.n, .slice (some ⟨bA, 0, none⟩) t.held.length cA] 32)
  have HLA := Hid.mk' hLA
  rw [hlA, hnn] at HLA
  rw [hlA, hnn]
  have HlA := Hid.mk' hlA
  have Hnn := Hid.mk' hnn
  clear hLA hoA hbA HB0 hlA hnn hhl
  go_wp2
  generalize ZA.alloc _ = WA at *
  generalize ZA.heap.size = gi at *
  have hUA : Both w WA.drew d g s t (lsP celRow 85 1025 (⟨some ⟨bA, 0, none⟩, cA, t.held⟩ : Tl Cel) :: boxP gy (.cells #[v0, v1, v2, v3, (.slice pa Y.h1.length ca), (.slice pb Y.h2.length cb)] 39) :: bkP celRow 85 30 1025 (.slice pa Y.h1.length ca) Y.h1 :: (boxP gi (.cells #[.int .i64 nn, .slice (some ⟨bA, 0, none⟩) lA cA] 32) :: boxP g0 (.cells #[.int .i64 o, .int .i64 9, .int .i64 pos, pv, .int .i64 n, kv] 44) :: [bkP enI 3 65 1 v0 Y.i1, bkP enI 3 65 1 v1 Y.i2, bkP recCells 108 67 1026 v2 Y.o1, bkP recCells 108 67 1026 v3 Y.o2] ++ (bkP celRow 85 30 1025 (.slice pb Y.h2.length cb) Y.h2 :: l))) := HLA.out.drew.perm (perm_im _ _ _ _ [bkP enI 3 65 1 v0 Y.i1, bkP enI 3 65 1 v1 Y.i2, bkP recCells 108 67 1026 v2 Y.o1, bkP recCells 108 67 1026 v3 Y.o2] _ _)
  have HUA := Hid.mk' hUA
  have HIm : Hid (WA.drew.heap[gi]? = some (.cells #[.int .i64 nn, .slice (some ⟨bA, 0, none⟩) lA cA] 32)) := HLA.out.drew.at (List.mem_cons_self ..)
  have HCeA : Hid (WA.drew.cell? ⟨gy, 4, none⟩ = some (.slice pa Y.h1.length ca)) := Joins.cell_of_block (hUA.at (List.mem_cons_of_mem _ (List.mem_cons_self ..))) 4
  clear HLA hUA
  refine wp_region_ph (A := fun u => u.heap[gi]? = some (.cells #[.int .i64 nn, .slice (some ⟨bA, 0, none⟩) lA cA] 32)) (B := fun u => u.cell? ⟨gy, 4, none⟩ = some (.slice pa Y.h1.length ca)) 8 [(0, 0), (1, 0), (2, 0), (3, 0), (4, 1), (5, 0), (6, 0), (7, 2), (8, 2), (9, 0), (10, 0), (11, 2)] (by kernel_rfl) rfl (by kernel_rfl) (fun d _ _ _ _ h => by cases d <;> exact h) HIm.out HCeA.out ?_
  generalize WA.drew = XA at *
  simp only [inOrdC, List.getElem?_cons_zero, List.getElem?_cons_succ]
  refine wpPh_yield (v := .pointer (some ⟨gy, 0, none⟩)) rfl (fun u _ => exec_mv rfl rfl) ?_
  simp only [Act.put, List.setIfInBounds_toArray, List.set_cons_succ, List.set_cons_zero]
  refine wpPh_yield (v := .pointer (some ⟨gy, 0, none⟩)) rfl (fun u _ => exec_mv rfl rfl) ?_
  simp only [Act.put, List.setIfInBounds_toArray, List.set_cons_succ, List.set_cons_zero]
  refine wpPh_yield (v := .pointer (some ⟨gy, 0, none⟩)) rfl (fun u _ => by go_simp) ?_
  simp only [Act.put, List.setIfInBounds_toArray, List.set_cons_succ, List.set_cons_zero]
  refine wpPh_yield (v := .pointer (some ⟨gy, 4, none⟩)) rfl (fun u _ => by go_simp) ?_
  simp only [Act.put, List.setIfInBounds_toArray, List.set_cons_succ, List.set_cons_zero]
  refine wpPh_read (v := (.slice pa Y.h1.length ca)) rfl (fun u _ hB => by have hB' : u.cell? ⟨gy, 4, none⟩ = some (.slice pa Y.h1.length ca) := hB; go_simp) ?_
  simp only [Act.put, List.setIfInBounds_toArray, List.set_cons_succ, List.set_cons_zero]
  refine wpPh_yield (v := .pointer (some ⟨gi, 1, none⟩)) rfl (fun u _ => by go_simp) ?_
  simp only [Act.put, List.setIfInBounds_toArray, List.set_cons_succ, List.set_cons_zero]
  refine wpPh_yield (v := .slice (some ⟨bA, 0, none⟩) lA cA) rfl (fun u hA => by have hA' := Joins.cell_of_block hA 1; go_simp) ?_
  simp only [Act.put, List.setIfInBounds_toArray, List.set_cons_succ, List.set_cons_zero]
  have hL2 := HUA.out.later (below_new XA (.cells #[Value.slice (some ⟨bA, 0, none⟩) lA cA] 30))
  have k2 := hL2.at (b := gy) (List.mem_cons_of_mem _ (List.mem_cons_self ..))
  have ki2 := hL2.at (b := gi) (o := .cells #[.int .i64 nn, .slice (some ⟨bA, 0, none⟩) lA cA] 32) (by simp)
  obtain ⟨pA, qA, QA, hrA, hMA, hNA⟩ := Both.tells (st := 37) Try.underlying37 HI.out.1 HI.out.2.1 HI.out.2.2.1 HI.out.2.2.2 (by decide) HUA.out HNa.out 37 4
  have k3 := hMA.at (b := gy) (List.mem_cons_self ..)
  have ki3 := hMA.at (b := gi) (o := .cells #[.int .i64 nn, .slice (some ⟨bA, 0, none⟩) lA cA] 32) (by simp)
  have ki4 := hNA.at (b := gi) (o := .cells #[.int .i64 nn, .slice (some ⟨bA, 0, none⟩) lA cA] 32) (by simp)
  have c3 : QA.cell? ⟨gy, 4, none⟩ = some (.slice pa Y.h1.length ca) := Joins.cell_of_block k3 4
  have f3 : QA.frozen? ⟨gy, 4, none⟩ = false := Joins.unfrozen_of_block k3 4
  have HK2 := Hid.mk' (And.intro ki2 (Joins.cell_of_block k2 4))
  have HNA := Hid.mk' hNA
  have HK3 := Hid.mk' ki3
  have HK4 := Hid.mk' ki4
  clear hL2 k2 ki2 k3 ki3 ki4 hMA hNA HCeA HUA HIm
  unfold Tl.v at hrA
  simp only at hrA
  rw [HlA.out] at hrA
  refine wpPh_make (v := .slice (some ⟨XA.heap.size, 0, none⟩) 1 1) (w' := XA.alloc (.cells #[.slice (some ⟨bA, 0, none⟩) lA cA] 30)) rfl (by go_simp) ⟨HK2.out.1, fun _ => HK2.out.2⟩ ?_
  simp only [Act.put, List.setIfInBounds_toArray, List.set_cons_succ, List.set_cons_zero]
  refine wpPh_make (v := .slice pA (Y.h1.length + 1) qA) (w' := QA) rfl (exec_push rfl rfl rfl hrA) ⟨HK3.out, fun q => by cases q⟩ ?_
  simp only [Act.put, List.setIfInBounds_toArray, List.set_cons_succ, List.set_cons_zero]
  refine wpPh_yield (v := .pointer (some ⟨gy, 0, none⟩)) rfl (fun u _ => by go_simp) ?_
  simp only [Act.put, List.setIfInBounds_toArray, List.set_cons_succ, List.set_cons_zero]
  refine wpPh_yield (v := .pointer (some ⟨gy, 4, none⟩)) rfl (fun u _ => by go_simp) ?_
  simp only [Act.put, List.setIfInBounds_toArray, List.set_cons_succ, List.set_cons_zero]
  refine wpPh_do (w' := QA.setCell ⟨gy, 4, none⟩ (.slice pA (Y.h1.length + 1) qA)) rfl (by go_simp) ⟨HK4.out, fun q => by cases q⟩ ?_
  clear hrA c3 f3 HK2 HK3 HK4
  generalize QA.setCell ⟨gy, 4, none⟩ (.slice pA (Y.h1.length + 1) qA) = YA at HNA ⊢
  simp only [wpPh]
  have HWA : Hid (Both w YA d g s t (boxP gi (.cells #[.int .i64 nn, .slice (some ⟨bA, 0, none⟩) lA cA] 32) :: boxP g0 (.cells #[.int .i64 o, .int .i64 9, .int .i64 pos, pv, .int .i64 n, kv] 44) :: boxP gy (.cells #[v0, v1, v2, v3, (.slice pA (Y.h1.length + 1) qA), (.slice pb Y.h2.length cb)] 39) :: (bkP enI 3 65 1 v0 Y.i1 :: bkP enI 3 65 1 v1 Y.i2 :: bkP recCells 108 67 1026 v2 Y.o1 :: bkP recCells 108 67 1026 v3 Y.o2 :: bkP celRow 85 30 1025 (.slice pA (Y.h1.length + 1) qA) (Y.h1 ++ [(⟨some ⟨bA, 0, none⟩, cA, t.held⟩ : Tl Cel)]) :: bkP celRow 85 30 1025 (.slice pb Y.h2.length cb) Y.h2 :: l))) := HNA.out.perm (perm_im2 _ _ _ [bkP enI 3 65 1 v0 Y.i1, bkP enI 3 65 1 v1 Y.i2, bkP recCells 108 67 1026 v2 Y.o1, bkP recCells 108 67 1026 v3 Y.o2] _ _).symm
  clear HNA
  go_wp2
  have hUB : Both w YA.drew d g s t (boxP gy (.cells #[v0, v1, v2, v3, (.slice pA (Y.h1.length + 1) qA), (.slice pb Y.h2.length cb)] 39) :: bkP celRow 85 30 1025 (.slice pb Y.h2.length cb) Y.h2 :: (boxP gi (.cells #[.int .i64 nn, .slice (some ⟨bA, 0, none⟩) lA cA] 32) :: boxP g0 (.cells #[.int .i64 o, .int .i64 9, .int .i64 pos, pv, .int .i64 n, kv] 44) :: [bkP enI 3 65 1 v0 Y.i1, bkP enI 3 65 1 v1 Y.i2, bkP recCells 108 67 1026 v2 Y.o1, bkP recCells 108 67 1026 v3 Y.o2, bkP celRow 85 30 1025 (.slice pA (Y.h1.length + 1) qA) (Y.h1 ++ [(⟨some ⟨bA, 0, none⟩, cA, t.held⟩ : Tl Cel)])] ++ (l))) := HWA.out.drew.perm (perm_im2 _ _ _ [bkP enI 3 65 1 v0 Y.i1, bkP enI 3 65 1 v1 Y.i2, bkP recCells 108 67 1026 v2 Y.o1, bkP recCells 108 67 1026 v3 Y.o2, bkP celRow 85 30 1025 (.slice pA (Y.h1.length + 1) qA) (Y.h1 ++ [(⟨some ⟨bA, 0, none⟩, cA, t.held⟩ : Tl Cel)])] _ _)
  have HUB := Hid.mk' hUB
  have HCeB : Hid (YA.drew.cell? ⟨gy, 5, none⟩ = some (.slice pb Y.h2.length cb)) := Joins.cell_of_block (hUB.at (List.mem_cons_self ..)) 5
  clear HWA hUB
  refine wp_region_ph (A := fun _ => True) (B := fun u => u.cell? ⟨gy, 5, none⟩ = some (.slice pb Y.h2.length cb)) 9 [(0, 0), (1, 0), (2, 0), (3, 0), (4, 1), (5, 0), (6, 2), (7, 0), (8, 2), (9, 2), (10, 0), (11, 0), (12, 2)] (by kernel_rfl) rfl (by kernel_rfl) (fun d _ _ _ _ h => by cases d <;> exact h) trivial HCeB.out ?_
  generalize YA.drew = XB at *
  simp only [inOrdC, List.getElem?_cons_zero, List.getElem?_cons_succ]
  refine wpPh_yield (v := .pointer (some ⟨gy, 0, none⟩)) rfl (fun u _ => exec_mv rfl rfl) ?_
  simp only [Act.put, List.setIfInBounds_toArray, List.set_cons_succ, List.set_cons_zero]
  refine wpPh_yield (v := .pointer (some ⟨gy, 0, none⟩)) rfl (fun u _ => exec_mv rfl rfl) ?_
  simp only [Act.put, List.setIfInBounds_toArray, List.set_cons_succ, List.set_cons_zero]
  refine wpPh_yield (v := .pointer (some ⟨gy, 0, none⟩)) rfl (fun u _ => by go_simp) ?_
  simp only [Act.put, List.setIfInBounds_toArray, List.set_cons_succ, List.set_cons_zero]
  refine wpPh_yield (v := .pointer (some ⟨gy, 5, none⟩)) rfl (fun u _ => by go_simp) ?_
  simp only [Act.put, List.setIfInBounds_toArray, List.set_cons_succ, List.set_cons_zero]
  refine wpPh_read (v := (.slice pb Y.h2.length cb)) rfl (fun u _ hB => by have hB' : u.cell? ⟨gy, 5, none⟩ = some (.slice pb Y.h2.length cb) := hB; go_simp) ?_
  simp only [Act.put, List.setIfInBounds_toArray, List.set_cons_succ, List.set_cons_zero]
  refine wpPh_yield (v := .pointer (some ⟨g, 0, none⟩)) rfl (fun u _ => exec_mv rfl rfl) ?_
  simp only [Act.put, List.setIfInBounds_toArray, List.set_cons_succ, List.set_cons_zero]
  refine wpPh_call rfl 51 _ _ rfl Try.call51 [.pointer (some ⟨g, 0, none⟩)] rfl ?_
  refine (both_rimage HUB.out (by have := HR.out.held; omega)).mono ?_
  rintro e ZB ⟨bB, cB, rfl, hoB, hbB⟩
  have hLB := HUB.out.list (x := (⟨bB, cB, t.held⟩ : Tl Cel)) (en := celRow) hbB hoB
  have kB := hLB.at (b := gy) (List.mem_cons_of_mem _ (List.mem_cons_self ..))
  have hL2B := hLB.later (below_new ZB (.cells #[Value.slice (bB) t.held.length cB] 30))
  have k2B := hL2B.at (b := gy) (List.mem_cons_of_mem _ (List.mem_cons_self ..))
  obtain ⟨pB, qB, QB, hrB, hMB, hNB⟩ := Both.tells (st := 37) Try.underlying37 HI.out.1 HI.out.2.1 HI.out.2.2.1 HI.out.2.2.2 (by decide) hLB HNb.out 37 5
  have k3B := hMB.at (b := gy) (List.mem_cons_self ..)
  have c3B : QB.cell? ⟨gy, 5, none⟩ = some (.slice pb Y.h2.length cb) := Joins.cell_of_block k3B 5
  have f3B : QB.frozen? ⟨gy, 5, none⟩ = false := Joins.unfrozen_of_block k3B 5
  have HKB := Hid.mk' (And.intro (Joins.cell_of_block kB 5) (Joins.cell_of_block k2B 5))
  have HNB := Hid.mk' hNB
  clear hLB hL2B kB k2B k3B hMB hNB hoB hbB HCeB HUB
  unfold Tl.v at hrB
  simp only at hrB
  generalize hxB : t.held.length = lxB at hrB HKB ⊢
  refine ⟨_, rfl, ⟨trivial, fun _ => HKB.out.1⟩, ?_⟩
  simp only [Act.put, List.setIfInBounds_toArray, List.set_cons_succ, List.set_cons_zero]
  refine wpPh_yield (v := .slice (bB) lxB cB) rfl (fun u _ => exec_field1 rfl rfl) ?_
  simp only [Act.put, List.setIfInBounds_toArray, List.set_cons_succ, List.set_cons_zero]
  refine wpPh_make (v := .slice (some ⟨ZB.heap.size, 0, none⟩) 1 1) (w' := ZB.alloc (.cells #[.slice (bB) lxB cB] 30)) rfl (by go_simp) ⟨trivial, fun _ => HKB.out.2⟩ ?_
  simp only [Act.put, List.setIfInBounds_toArray, List.set_cons_succ, List.set_cons_zero]
  refine wpPh_make (v := .slice pB (Y.h2.length + 1) qB) (w' := QB) rfl (exec_push rfl rfl rfl hrB) ⟨trivial, fun q => by cases q⟩ ?_
  simp only [Act.put, List.setIfInBounds_toArray, List.set_cons_succ, List.set_cons_zero]
  refine wpPh_yield (v := .pointer (some ⟨gy, 0, none⟩)) rfl (fun u _ => by go_simp) ?_
  simp only [Act.put, List.setIfInBounds_toArray, List.set_cons_succ, List.set_cons_zero]
  refine wpPh_yield (v := .pointer (some ⟨gy, 5, none⟩)) rfl (fun u _ => by go_simp) ?_
  simp only [Act.put, List.setIfInBounds_toArray, List.set_cons_succ, List.set_cons_zero]
  refine wpPh_do (w' := QB.setCell ⟨gy, 5, none⟩ (.slice pB (Y.h2.length + 1) qB)) rfl (by go_simp) ⟨trivial, fun q => by cases q⟩ ?_
  clear hrB c3B f3B HKB hxB
  generalize QB.setCell ⟨gy, 5, none⟩ (.slice pB (Y.h2.length + 1) qB) = YB at HNB ⊢
  simp only [wpPh]
  have HWB : Hid (Both w YB d g s t (boxP gi (.cells #[.int .i64 nn, .slice (some ⟨bA, 0, none⟩) lA cA] 32) :: boxP g0 (.cells #[.int .i64 o, .int .i64 9, .int .i64 pos, pv, .int .i64 n, kv] 44) :: boxP gy (.cells #[v0, v1, v2, v3, (.slice pA (Y.h1.length + 1) qA), (.slice pB (Y.h2.length + 1) qB)] 39) :: (bkP enI 3 65 1 v0 Y.i1 :: bkP enI 3 65 1 v1 Y.i2 :: bkP recCells 108 67 1026 v2 Y.o1 :: bkP recCells 108 67 1026 v3 Y.o2 :: bkP celRow 85 30 1025 (.slice pA (Y.h1.length + 1) qA) (Y.h1 ++ [(⟨some ⟨bA, 0, none⟩, cA, t.held⟩ : Tl Cel)]) :: bkP celRow 85 30 1025 (.slice pB (Y.h2.length + 1) qB) (Y.h2 ++ [(⟨bB, cB, t.held⟩ : Tl Cel)]) :: l))) := HNB.out.perm (perm_im2 _ _ _ [bkP enI 3 65 1 v0 Y.i1, bkP enI 3 65 1 v1 Y.i2, bkP recCells 108 67 1026 v2 Y.o1, bkP recCells 108 67 1026 v3 Y.o2, bkP celRow 85 30 1025 (.slice pA (Y.h1.length + 1) qA) (Y.h1 ++ [(⟨some ⟨bA, 0, none⟩, cA, t.held⟩ : Tl Cel)])] _ _).symm
  clear HNB
  have HIm2 : Hid (YB.drew.heap[gi]? = some (.cells #[.int .i64 nn, .slice (some ⟨bA, 0, none⟩) lA cA] 32)) := HWB.out.drew.at (List.mem_cons_self ..)
  have HWC := Hid.mk' HWB.out.drew
  clear HWB
  go_wp2
  refine wp_region_ord (S := fun u => u.heap[gi]? = some (.cells #[.int .i64 nn, .slice (some ⟨bA, 0, none⟩) lA cA] 32)) [(0, true), (1, true), (2, true), (3, false), (4, true), (5, true), (6, true)]
    (by kernel_rfl) rfl (by kernel_rfl) (fun d _ _ _ _ h => by cases d <;> exact h) HIm2.out ?_
  generalize YB.drew = XC at *
  simp only [inOrd, List.getElem?_cons_zero, List.getElem?_cons_succ]
  refine wpOrd_yield (v := .pointer (some ⟨gi, 0, none⟩)) rfl (fun u _ => by go_simp) ?_
  simp only [Act.put, List.setIfInBounds_toArray, List.set_cons_succ, List.set_cons_zero]
  refine wpOrd_yield (v := .int .i64 nn) rfl (fun u hu => by have := Joins.cell_of_block hu 0; go_simp) ?_
  simp only [Act.put, List.setIfInBounds_toArray, List.set_cons_succ, List.set_cons_zero]
  refine wpOrd_yield (v := .pointer (some ⟨g, 0, none⟩)) rfl (fun u _ => exec_mv rfl rfl) ?_
  simp only [Act.put, List.setIfInBounds_toArray, List.set_cons_succ, List.set_cons_zero]
  refine wpOrd_call rfl 51 _ _ rfl Try.call51 [.pointer (some ⟨g, 0, none⟩)] rfl ?_
  refine (both_rimage HWC.out (by have := HR.out.held; omega)).mono ?_
  rintro e XD ⟨pD, cD, rfl, _, hbD⟩
  have h5 := HWC.out.later hbD
  rw [HS.out.n, Hnn.out]
  refine ⟨_, rfl, h5.at (List.mem_cons_self ..), ?_⟩
  simp only [Act.put, List.setIfInBounds_toArray, List.set_cons_succ, List.set_cons_zero]
  have HP : Hid (ActY w d g gy m l XD) := ⟨_, _, _, _, _, _, ⟨Y.i1, Y.i2, Y.o1, Y.o2, (Y.h1 ++ [(⟨some ⟨bA, 0, none⟩, cA, t.held⟩ : Tl Cel)]), (Y.h2 ++ [(⟨bB, cB, t.held⟩ : Tl Cel)])⟩, s, t, h5.pop.pop, HS.out, HC.out.mono (by omega), by
    have y := HY.out
    refine ⟨y.i, y.o, ?_, by have := y.li; show Y.i1.length ≤ m + 1; omega, by have := y.lo; show Y.o1.length ≤ m + 1; omega, ?_, y.ei, y.eo, fun x hx => ?_⟩
    · show (Y.h1 ++ _).map (·.l) = (Y.h2 ++ _).map (·.l)
      rw [List.map_append, List.map_append, y.h]
      rfl
    · have := y.lh
      show (Y.h1 ++ _).length ≤ m + 1
      simp
      omega
    · rcases List.mem_append.1 hx with hx | hx
      · exact y.eh x hx
      · simp only [List.mem_singleton] at hx
        subst hx
        have := HR.out.held
        show t.held.length ≤ 7000000
        omega⟩
  clear HWC HIm2 HY HS HC HR HI HNa HNb HlA Hnn h5 hbD
  generalize t.held.length = hl
  refine wpOrd_yield (v := .int .i64 nn) rfl (fun u _ => exec_field0 rfl rfl) ?_
  simp only [Act.put, List.setIfInBounds_toArray, List.set_cons_succ, List.set_cons_zero]
  refine wpOrd_yield (v := .bool true) rfl (fun u _ => by go_simp) ?_
  simp only [Act.put, List.setIfInBounds_toArray, List.set_cons_succ, List.set_cons_zero]
  refine wpOrd_yield (v := .bool true) rfl (fun u _ => by go_simp) ?_
  simp only [Act.put, List.setIfInBounds_toArray, List.set_cons_succ, List.set_cons_zero]
  refine wpOrd_nil ?_
  try simp only [Act.put]
  go_wp2
  go_ret
  exact ⟨rfl, HP.out⟩
end Go.Proofs.Ytembocfghkmieaa
/- crash of both disks: what is handed in stays, and is written over then; a choice of at most two million. -/
namespace Go.Proofs.Ytembocfghkmieaa
open Go.RowKit Go.Maps
def enO (b : Bool) : List Value := [.bool b]
theorem lenO' (x : Bool) : (enO x).length = 1 := rfl
theorem oneO' (x : Bool) : ∀ u ∈ enO x, u.oneCell' = true := fun u hu => by simp [enO] at hu; subst hu; rfl
theorem info4 : (Try.prog.info? 4).map (fun i => (i.zero, i.size, i.bytes)) = some (some (.bool false), 1, 1) := by kernel_rfl
theorem copyB {W : World} {p : Option Addr} {c : Nat} {l : List Bool} (hl : LiesE enO 1 W p l) (hn : l.length ≤ 2000000) (ty : TypeId) :
    ∃ v' w', (Builtin.append_ #[42, 42] ty #[.slice none 0 0, .slice p l.length c]).run Try.prog W = .ok v' w' ∧ w'.ownsRow W.heap.size 4 1 v' l.length (l.flatMap enO) ∧ Below W.heap.size W w' := by
  obtain ⟨i, hi, hz, hsize, hby⟩ := info_parts info4
  have key : ∀ ad : Addr, p = some ad → (∀ j u, (l.flatMap enO)[j]? = some u → W.cell? (ad.add j) = some u) → ∃ v' w', (Builtin.append_ #[42, 42] ty #[.slice none 0 0, .slice p l.length c]).run Try.prog W = .ok v' w' ∧ w'.ownsRow W.heap.size 4 1 v' l.length (l.flatMap enO) ∧ Below W.heap.size W w' := fun ad hp hc => by
    subst hp
    obtain ⟨v', w', hrun, h2, hg, _⟩ := run_append_own_wide (P := Try.prog) W W.heap.size 42 ty 4 i _ 1 1 Try.underlying42 hi hz hsize hby (by rfl) (by omega) (.slice none 0 0) 0 [] (World.ownsRow_nil _ _ _ _) ad l.length c (l.flatMap enO) (fml lenO' l) hc (fun u hu => by
      obtain ⟨x, _, hx⟩ := List.mem_flatMap.1 hu
      exact oneO' x u hx) (by unfold maxLen; omega) (by omega) (Nat.le_refl _)
    refine ⟨v', w', hrun, by simpa using h2, (Below.refl _ _).grown hg (Nat.le_refl _) fun k hk => by cases hk⟩
  by_cases h0 : 0 < l.length
  · obtain ⟨b, off, hp, _, hc⟩ := hl h0
    exact key _ hp fun j u hu => by
      rw [Go.WideShapes.add_plain]
      exact LiesE.cells lenO' (by omega) hc j u hu
  · have hl0 : l = [] := List.length_eq_zero_iff.1 (by omega)
    subst hl0
    cases p with
    | some ad => exact key ad rfl fun j u hu => by simp at hu
    | none =>
      refine ⟨.slice none 0 0, W, ?_, World.ownsRow_nil _ _ _ _, Below.refl _ _⟩
      simp [go_sem, run_underlying Try.underlying42, sizeOf, typeInfo, hi]
def tail4 : List Bool := [true, false, true, true]
def rowT : Array Value := #[.bool true, .bool false, .bool true, .bool true]
/-- The copy with four more. -/
theorem fullB {W : World} {p : Option Addr} {c : Nat} {l : List Bool} (hl : LiesE enO 1 W p l) (hn : l.length ≤ 2000000) :
    ∃ p1 c1 W1 b2 c2 W2, (Builtin.append_ #[42, 42] 42 #[.slice none 0 0, .slice p l.length c]).run Try.prog W = .ok (.slice p1 l.length c1) W1 ∧ (Builtin.append_ #[42, 42] 42 #[.slice p1 l.length c1, .slice (some ⟨W1.heap.size, 0, none⟩) 4 4]).run Try.prog (W1.alloc (.cells rowT 4)) = .ok (.slice (some ⟨b2, 0, none⟩) (l.length + 4) c2) W2 ∧
      W2.ownsRow W.heap.size 4 1 (.slice (some ⟨b2, 0, none⟩) (l ++ tail4).length c2) (l ++ tail4).length ((l ++ tail4).flatMap enO) ∧ Below W.heap.size W W2 := by
  obtain ⟨i, hi, hz, hsize, hby⟩ := info_parts info4
  obtain ⟨v1, W1, hr1, ho1, hb1⟩ := copyB (c := c) hl hn 42
  obtain ⟨p1, c1, rfl, _⟩ := own_slice ho1
  have hs1 := hb1.size
  have hnews : ∀ j u, (tail4.flatMap enO)[j]? = some u → (W1.alloc (.cells rowT 4)).cell? ((⟨W1.heap.size, 0, none⟩ : Addr).add j) = some u := fun j u hu => by
    rw [Go.WideShapes.add_plain, Nat.zero_add, cell_of_row _ _ j _ 4 _ (heap_alloc_new W1 _), ← hu, show rowT = (tail4.flatMap enO).toArray from rfl, List.getElem?_toArray]
  obtain ⟨v2, W2, hr2, ho2, hF2, hor⟩ := append_gen (W := W1.alloc (.cells rowT 4)) (v := .slice p1 l.length c1) Try.underlying42 hi hz hsize hby (by rfl) (by omega) (World.ownsRow.alloc ho1 (.cells rowT 4)) (ad := ⟨W1.heap.size, 0, none⟩) (m := 4) (c := 4) (news := tail4.flatMap enO) (by omega) rfl hnews (fun u hu => by
    obtain ⟨x, _, hx⟩ := List.mem_flatMap.1 hu
    exact oneO' x u hx) (by unfold maxLen; omega) (by omega) (by simp; omega) 42
  have hlen : (l ++ tail4).length = l.length + 4 := by simp [tail4]
  rcases own_form ho2 with ⟨_, q⟩ | ⟨b2, c2, rfl, _⟩
  · omega
  refine ⟨p1, c1, W1, b2, c2, W2, hr1, hr2, ?_, ?_⟩
  · rw [hlen, List.flatMap_append]
    exact ho2
  · have hF : Fr (fun k => (Value.slice p1 l.length c1).ownBlock = some k) W1 W2 := (Fr.alloc _ W1 (.cells rowT 4)).trans hF2 fun _ _ q => q
    exact hb1.trans (hF.below (fun k q => (ho1.lt k q).1) hs1)
/-- The first i turned round. -/
def flipB (l : List Bool) (i : Nat) : List Bool := (l.take i).map (!·) ++ l.drop i ++ tail4
theorem flipB_zero (l : List Bool) : flipB l 0 = l ++ tail4 := by simp [flipB]
theorem flipB_len (l : List Bool) (i : Nat) (h : i ≤ l.length) : (flipB l i).length = l.length + 4 := by
  simp [flipB, tail4]
  omega
theorem flipB_at (l : List Bool) (i : Nat) {x : Bool} (h : l[i]? = some x) : (flipB l i)[i]? = some x := by
  have hi := (List.getElem?_eq_some_iff.1 h).1
  unfold flipB
  rw [List.append_assoc, List.getElem?_append_right (by simp; omega), List.getElem?_append_left (by simp; omega)]
  simp only [List.length_map, List.length_take, List.getElem?_drop, Nat.min_eq_left (Nat.le_of_lt hi)]
  rw [Nat.sub_self, Nat.add_zero, h]
theorem flipB_set (l : List Bool) (i : Nat) {x : Bool} (h : l[i]? = some x) : (flipB l i).set i (!x) = flipB l (i + 1) := by
  have hi := (List.getElem?_eq_some_iff.1 h).1
  have hd : l.drop i = x :: l.drop (i + 1) := by
    rw [List.drop_eq_getElem_cons hi]
    congr 1
    exact (List.getElem?_eq_some_iff.1 h).2
  have ht : l.take (i + 1) = l.take i ++ [x] := by rw [List.take_add_one, h]; rfl
  unfold flipB
  rw [List.append_assoc, List.append_assoc, List.set_append_right _ _ (by simp; omega), ht, hd]
  simp only [List.length_map, List.length_take, Nat.min_eq_left (Nat.le_of_lt hi), Nat.sub_self, List.cons_append, List.set_cons_zero, List.map_append, List.map_cons, List.map_nil, List.append_assoc, List.nil_append]
theorem flipB_tail (l : List Bool) (j : Nat) : (flipB l l.length)[l.length + j]? = tail4[j]? := by
  unfold flipB
  rw [List.getElem?_append_right (by simp)]
  simp
variable {w W : World} {d g m : Nat} {s : St} {t : RSt} {l : List Part}
/-- One of the list's elements is written. -/
theorem Both.flip {b c i : Nat} {x : List Bool} {y z : Bool} (h : Both w W d g s t (lsP enO 4 1 ⟨some ⟨b, 0, none⟩, c, x⟩ :: l)) (hx : x[i]? = some y) : W.cell? ⟨b, i, none⟩ = some (.bool y) ∧ W.frozen? ⟨b, i, none⟩ = false ∧ Both w (W.setCell ⟨b, i, none⟩ (.bool z)) d g s t (lsP enO 4 1 ⟨some ⟨b, 0, none⟩, c, x.set i z⟩ :: l) := by
  have ho : W.ownsRow 0 4 1 (.slice (some ⟨b, 0, none⟩) x.length c) x.length (x.flatMap enO) := h.say (p := lsP enO 4 1 ⟨some ⟨b, 0, none⟩, c, x⟩) (by simp)
  obtain ⟨_, _, cur, hc⟩ := own_heap ho
  have h1 := own_get lenO' ho hx 0 _ rfl
  rw [Nat.mul_one, Nat.add_zero] at h1
  refine ⟨h1, Joins.unfrozen_of_block hc i, ?_⟩
  have h2 := own_cell (x' := z) (u := .bool z) lenO' ho hx (j := 0) (by omega) rfl
  rw [Nat.mul_one, Nat.add_zero] at h2
  have hl : (x.set i z).length = x.length := List.length_set ..
  refine h.turn (p' := lsP enO 4 1 ⟨some ⟨b, 0, none⟩, c, x.set i z⟩) (Fr.setCell W b i _) (fun k _ q => by rw [q]; rfl) (fun W W' h _ hk => ownsRow_kept0 h hk) (by show World.ownsRow _ 0 4 1 (.slice (some ⟨b, 0, none⟩) (x.set i z).length c) (x.set i z).length _; rw [hl]; exact h2) fun k hk => ⟨.inl hk, ?_⟩
  have e : some b = some k := hk
  injection e with e
  rw [← e]
  exact (h2.lt b rfl).2
theorem Both.tailAt {b c i : Nat} {x : List Bool} {y : Bool} (h : Both w W d g s t (lsP enO 4 1 ⟨some ⟨b, 0, none⟩, c, x⟩ :: l)) (hx : x[i]? = some y) : W.cell? ⟨b, i, none⟩ = some (.bool y) := (h.flip (z := y) hx).1
set_option maxRecDepth 20000 in
set_option maxHeartbeats 2000000 in
theorem crash_any (h : Both w W d g s t l) (hS : Sim t s) (hc : Cap s m) (hm : m ≤ 6000000) {ka : Option Addr} {kc : Nat} {kl : List Bool} (hk : BoolsAt w (.slice ka kl.length kc) kl) (hkl : kl.length ≤ 2000000) :
    Calls Try.prog 46 #[.pointer (some ⟨d, 0, none⟩), .pointer (some ⟨g, 0, none⟩), .slice ka kl.length kc] W fun e W' => e = .returned (.bool true) ∧ ActP w d g m l W' := by
  have hkc : 0 < kl.length → ∃ b off, ka = some ⟨b, off, none⟩ ∧ b < w.heap.size ∧ ∀ V, Below w.heap.size w V → ∀ i x, kl[i]? = some x → V.cell? ⟨b, off + i, none⟩ = some (.bool x) := fun h0 => by
    obtain ⟨x0, hx0⟩ : ∃ x0, kl[0]? = some x0 := ⟨kl[0], List.getElem?_eq_getElem h0⟩
    obtain ⟨b, off, hp, _⟩ := bools_cell hk hx0
    subst hp
    refine ⟨b, off, rfl, ?_, fun V hb i x hx => ?_⟩
    · have := (bools_cell hk hx0)
      obtain ⟨b', off', e, h1⟩ := this
      injection e with e
      injection e with e1 e2
      subst e1 e2
      exact block_lt_of_cell (h1 w (Below.refl _ _))
    · obtain ⟨b', off', e, h1⟩ := bools_cell hk hx
      injection e with e
      injection e with e1 e2
      subst e1 e2
      exact h1 V hb
  have hL0 : LiesE enO 1 W ka kl := fun h0 => by
    obtain ⟨b, off, h1, h2, h3⟩ := hkc h0
    refine ⟨b, off, h1, Nat.lt_of_lt_of_le h2 h.below.size, fun k x hx j v hv => ?_⟩
    have hj : j = 0 := by have := (List.getElem?_eq_some_iff.1 hv).1; rw [lenO'] at this; omega
    subst hj
    have hv' : v = .bool x := by simpa [enO] using hv.symm
    subst hv'
    rw [Nat.mul_one, Nat.add_zero]
    exact h3 W h.below k x hx
  obtain ⟨p1, c1, W1, b2, c2, W2, hr1, hr2, ho2, hb2⟩ := fullB (c := kc) hL0 hkl
  have h2 := h.list (x := ⟨some ⟨b2, 0, none⟩, c2, kl ++ tail4⟩) (en := enO) hb2 ho2
  have HR1 := Hid.mk' hr1
  have HR2 := Hid.mk' hr2
  have HKC := Hid.mk' hkc
  have hbl : BoolsAt W2 (.slice (some ⟨b2, 0, none⟩) kl.length c2) kl := ⟨_, _, rfl, fun _ => ⟨b2, 0, rfl, fun i x hx => by
    rw [Nat.zero_add]
    exact h2.tailAt (by rw [List.getElem?_append_left (List.getElem?_eq_some_iff.1 hx).1]; exact hx)⟩⟩
  have hCr := both_crash h2 hbl (by have := hc.wait; omega) (by omega)
  have HRR := Hid.mk' (hS.room h.ok hc (by omega))
  have HS1 := Hid.mk' (hS.crash h.ok kl)
  have HC1 := Hid.mk' (hc.crashS kl)
  have hlc : kl.length + 4 ≤ c2 := by
    have := (own_heap ho2).2.1
    simpa [tail4] using this
  obtain ⟨K, hK⟩ : ∃ K, kl.length = K := ⟨_, rfl⟩
  have HK := Hid.mk' hK
  have HCr := Hid.mk' hCr
  rw [hK] at HR1 HR2 HCr hlc hkl ⊢
  clear hr1 hr2 hkc hbl hCr h2 ho2 hb2 hL0 h hS hc hk hK
  unfold rowT at HR2
  go_enter Try.func46, Try.ntmps46
  go_upto_region 3 with (first | (at_builtin; refine wpList_exec rfl (exec_pushY rfl rfl rfl HR1.out) ?_))
  go_upto_region 4 with (first | (at_builtin; refine wpList_exec rfl (exec_pushY rfl rfl rfl HR2.out) ?_))
  clear HR1 HR2
  go_wp2_with (go_at_call 35; fail)
  refine Calls.mono HCr.out ?_
  rintro e W3 ⟨rfl, h3⟩
  have hq := both_rcrash (kl := kl) (pk := ka) (ck := kc) h3 HRR.out (fun h0 => by
    obtain ⟨b, off, e1, e2, e3⟩ := HKC.out h0
    exact ⟨b, off, e1, e2, fun i x hx => e3 W3 h3.below i x hx⟩) (by have := HK.out; omega)
  rw [HK.out] at hq
  have HQ := Hid.mk' hq
  clear hq h3 HCr HRR
  go_wp2_with (go_at_call 77; fail)
  refine Calls.mono HQ.out ?_
  rintro e W4 ⟨rfl, h4⟩
  rw [← flipB_zero] at h4
  have H4 := Hid.mk' h4
  clear h4 HQ
  go_wp2
  go_loopw [10] (fun s10 wx => ∃ i : Nat, i ≤ K ∧ s10 = .int .i64 i ∧ Hid (Both w wx d g (crashS s kl) (rCrashS t kl) (lsP enO 4 1 ⟨some ⟨b2, 0, none⟩, c2, flipB kl i⟩ :: l))) (fun s10 _ => K - (intOf s10).toNat)
  case atStart => exact ⟨0, by omega, rfl, H4.out⟩
  case round =>
    obtain ⟨i, hi, rfl, HB⟩ := hrel
    clear H4
    by_cases hi2 : (i : Int) < K
    · have hil : i < kl.length := by have := HK.out; omega
      have hx : kl[i]? = some (kl[i]'hil) := List.getElem?_eq_getElem hil
      generalize kl[i]'hil = x at hx
      obtain ⟨kb, ko, rfl, hkb, hkx⟩ := HKC.out (by omega)
      have q2 : wr.cell? ⟨kb, ko + i, none⟩ = some (.bool x) := hkx wr HB.out.below i x hx
      obtain ⟨q1, q3, hB2⟩ := HB.out.flip (z := !x) (flipB_at kl i hx)
      obtain ⟨-, q4, hB3⟩ := HB.out.drew.flip (z := !x) (flipB_at kl i hx)
      have q5 : wr.drew.cell? ⟨b2, i, none⟩ = some (.bool x) := q1
      rw [flipB_set kl i hx] at hB3
      have H3 := Hid.mk' hB3
      have i1 : (i : Int) < (K : Int) + 4 := by omega
      have i2 : i < K + 4 := by omega
      have i3 : (i : Int) < ((K + 4 : Nat) : Int) := by omega
      clear hB2 hB3 hkx hx hil q3
      cases x
      all_goals
        go_wp2
        refine wp_region_still_lit (by kernel_rfl) (by kernel_rfl) ?_
        repeat still_step
        refine wpStill_nil ?_
        go_wp2
        exact ⟨⟨i + 1, by omega, by go_num, H3.out⟩, by simp [intOf]; omega⟩
    · obtain rfl : i = K := by omega
      have hB := HB.out
      have t0 := hB.tailAt (i := i + 0) (by rw [← HK.out]; exact flipB_tail kl 0)
      have t1 := hB.tailAt (i := i + 1) (by rw [← HK.out]; exact flipB_tail kl 1)
      have t2 := hB.tailAt (i := i + 2) (by rw [← HK.out]; exact flipB_tail kl 2)
      have t3 := hB.tailAt (i := i + 3) (by rw [← HK.out]; exact flipB_tail kl 3)
      have HP : Hid (ActP w d g m l wr) := ⟨_, _, hB.pop, HS1.out, HC1.out⟩
      rw [Nat.add_zero] at t0
      clear HB hB HS1 HC1 HKC HK
      go_wp2
      go_ret
      exact ⟨rfl, HP.out⟩
end Go.Proofs.Ytembocfghkmieaa
/- act of both disks: any call: both answer alike, and the book has what was told; no condition but that numbers do not pass their greatest. -/
namespace Go.Proofs.Ytembocfghkmieaa
open Go.RowKit Go.Maps
variable {w W : World} {d g gy m : Nat} {s : St} {t : RSt} {l : List Part}
set_option maxRecDepth 20000 in
set_option maxHeartbeats 1000000 in
theorem act_crash (h : Both w W d g s t l) (hS : Sim t s) (hc : Cap s m) (hm : m ≤ 6000000) (yv : Value) (o pos n : Int) (pv : Value) {ka : Option Addr} {kc : Nat} {kl : List Bool} (hk : BoolsAt w (.slice ka kl.length kc) kl) (hkl : kl.length ≤ 2000000) :
    Calls Try.prog 12 #[yv, .pointer (some ⟨d, 0, none⟩), .pointer (some ⟨g, 0, none⟩), .agg (actC o 4 pos pv n (.slice ka kl.length kc))] W fun e W' => e = .returned (.bool true) ∧ ActP w d g m l W' := by
  have hb0 := h.box (.cells (actC o 4 pos pv n (.slice ka kl.length kc)) 44)
  have HC := Hid.mk' (crash_any hb0 hS hc hm hk hkl)
  have hA := heap_alloc_new W (.cells (actC o 4 pos pv n (.slice ka kl.length kc)) 44)
  have HF : Hid (∀ W' q, ActP w d g m (q :: l) W' → ActP w d g m l W') := fun W' q h => by
    obtain ⟨s', t', h1, h2, h3⟩ := h
    exact ⟨s', t', h1.pop, h2, h3⟩
  unfold actC at *
  clear h hS hc hk hb0
  generalize kl.length = K at *
  go_enter Try.func12, Try.ntmps12
  go_wp2_with (go_at_call 46; fail)
  generalize W.alloc _ = W0 at *
  refine Calls.mono HC.out ?_
  rintro e W1 ⟨rfl, h1⟩
  have H1 := Hid.mk' (HF.out _ _ h1)
  clear h1 HF HC hA
  go_wp2
  go_ret
  exact ⟨rfl, H1.out⟩
/-- Both disks, the book beside them, and so many things done at most. -/
def BoS (w : World) (d g gy m : Nat) (l : List Part) (W : World) : Prop := ∃ v0 v1 v2 v3 v4 v5 Y s t, Both w W d g s t (bkL gy v0 v1 v2 v3 v4 v5 Y l) ∧ Sim t s ∧ Cap s m ∧ Book.Ok Y m
/-- What a call is handed. -/
structure ActIn (w : World) (pv kv : Value) (n : Int) : Prop where
  n : n ≤ 9223372036854775807
  blk : ∃ f, Can f ∧ ∀ V, Below w.heap.size w V → Calls Try.prog 21 #[pv] V fun e W' => e = .returned (.agg (blk f)) ∧ Below V.heap.size V W'
  keep : ∃ ka kc kl, kv = .slice ka (List.length kl) kc ∧ BoolsAt w kv kl ∧ kl.length ≤ 2000000
theorem act_any (h : BoS w d g gy m l W) (hm : m ≤ 6000000) (o k pos n : Int) {pv kv : Value} (hA : ActIn w pv kv n) :
    Calls Try.prog 12 #[.pointer (some ⟨gy, 0, none⟩), .pointer (some ⟨d, 0, none⟩), .pointer (some ⟨g, 0, none⟩), .agg (actC o k pos pv n kv)] W fun e W' => e = .returned (.bool true) ∧ BoS w d g gy (m + 1) l W' := by
  obtain ⟨v0, v1, v2, v3, v4, v5, Y, s, t, hB, hS, hc, hY⟩ := h
  have fin : ∀ W', ActP w d g m (bkL gy v0 v1 v2 v3 v4 v5 Y l) W' → BoS w d g gy (m + 1) l W' := fun W' ⟨s', t', h1, h2, h3⟩ => ⟨v0, v1, v2, v3, v4, v5, Y, s', t', h1, h2, h3, hY.mono (by omega)⟩
  by_cases hk : 0 ≤ k ∧ k ≤ 10
  · obtain ⟨j, rfl⟩ : ∃ j : Nat, k = j := ⟨k.toNat, by omega⟩
    have hj : j ≤ 10 := by omega
    match j, hj with
    | 0, _ => exact (act_read hB hS hc hm _ o pos n pv kv).mono fun e W' ⟨h1, h2⟩ => ⟨h1, fin W' h2⟩
    | 1, _ =>
      obtain ⟨f, hf, hb⟩ := hA.blk
      exact (act_write hB hS hc hm _ o pos n pv kv hf fun V ⟨_, _, _, hV⟩ => hb V hV.below).mono fun e W' ⟨h1, h2⟩ => ⟨h1, fin W' h2⟩
    | 2, _ => exact (act_barrier hB hS hc hm _ o pos n pv kv).mono fun e W' ⟨h1, h2⟩ => ⟨h1, fin W' h2⟩
    | 3, _ => exact (act_fuse hB hS hc hm _ o pos n pv kv hA.n).mono fun e W' ⟨h1, h2⟩ => ⟨h1, fin W' h2⟩
    | 4, _ =>
      obtain ⟨ka, kc, kl, rfl, hk1, hk2⟩ := hA.keep
      exact (act_crash hB hS hc hm _ o pos n pv hk1 hk2).mono fun e W' ⟨h1, h2⟩ => ⟨h1, fin W' h2⟩
    | 5, _ => exact (act_claim hB hS hc hm _ o pos n pv kv).mono fun e W' ⟨h1, h2⟩ => ⟨h1, fin W' h2⟩
    | 6, _ => exact (act_claimed hB hS hc hm _ o pos n pv kv).mono fun e W' ⟨h1, h2⟩ => ⟨h1, fin W' h2⟩
    | 7, _ => exact (act_pending hB hS hc hY hm o pos n pv kv).mono fun e W' ⟨h1, h2⟩ => ⟨h1, h2⟩
    | 8, _ => exact (act_history hB hS hc hY hm o pos n pv kv).mono fun e W' ⟨h1, h2⟩ => ⟨h1, h2⟩
    | 9, _ => exact (act_image hB hS hc hY hm o pos n pv kv).mono fun e W' ⟨h1, h2⟩ => ⟨h1, h2⟩
    | 10, _ => exact (act_counts hB hS hc hm _ o pos n pv kv).mono fun e W' ⟨h1, h2⟩ => ⟨h1, fin W' h2⟩
    | j + 11, hj => omega
  · exact (act_else hB hS hc hm _ o pos n pv kv k hk).mono fun e W' ⟨h1, h2⟩ => ⟨h1, fin W' h2⟩
end Go.Proofs.Ytembocfghkmieaa
