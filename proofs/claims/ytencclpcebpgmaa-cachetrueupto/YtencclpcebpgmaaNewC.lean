/- A holding as it is made, and a cache as New makes it; no condition. -/
import Derived.Test.YtencclpcebpgmaaCachAt
namespace Go.Proofs.Ytencclpcebpgmaa
open Go.RowKit Go.Maps

def nilp : Value := .pointer none
theorem info98 : (Try.prog.info? 98).map (fun i => (i.zero, i.size)) = some (some (.agg (rowV 0 false nilp nilp nought)), 1028) := by kernel_rfl
theorem zero98 : ∀ w, (zeroValue 98).run Try.prog w = .ok (.agg (rowV 0 false nilp nilp nought)) w := (zero_of_info info98).1
theorem size98 : (Try.prog.info? 98).map (·.size) = some 1028 := (zero_of_info info98).2
theorem built98 (u : World) : (Instr.build 98 #[]).run Try.prog u = .ok (.agg (rowV 0 false nilp nilp nought)) u := by
  have z := zero98
  generalize rowV 0 false nilp nilp nought = Z at *
  simp [Instr.build, z, run_underlying Try.underlying98, Instr.fill, Value.cells]
theorem rowV_set0 (k k' : Int) (b : Bool) (p q : Value) (f : Nat → Int) : (rowV k b p q f).setIfInBounds 0 (.int .i64 k') = rowV k' b p q f := by unfold rowV; rw [List.setIfInBounds_toArray]; rfl
theorem rowV_get2 (k : Int) (b : Bool) (p q : Value) (f : Nat → Int) : (rowV k b p q f)[2]? = some p := by
  unfold rowV
  generalize (blk f).toList = l
  rfl
theorem rowV_get3 (k : Int) (b : Bool) (p q : Value) (f : Nat → Int) : (rowV k b p q f)[3]? = some q := by
  unfold rowV
  generalize (blk f).toList = l
  rfl
theorem built98k (k : Int) (u : World) : (Instr.build 98 #[(0, .int .i64 k)]).run Try.prog u = .ok (.agg (rowV k false nilp nilp nought)) u := by
  have z := zero98
  have hs := rowV_set0 0 k false nilp nilp nought
  have hz := rowV_size 0 false nilp nilp nought
  have hne : rowV 0 false nilp nilp nought ≠ #[] := fun q => by rw [q] at hz; simp at hz
  generalize rowV 0 false nilp nilp nought = Z at *
  generalize rowV k false nilp nilp nought = Y at *
  simp [Instr.build, z, run_underlying Try.underlying98, Instr.fill, Value.cells, hs, hne]
section
variable {ops : Array Oper} {rest : List Oper} {o : Oper} {a : Act} {w : World} {Q : Exit → Act → World → Prop}
theorem wpList_build98 (hgd : o.guard = none) (ho : o.op = .build 98 #[]) {Z : Array Value}
    (hb : ∀ u, (Instr.build 98 #[]).run Try.prog u = .ok (.agg Z) u) (h : wpList Try.prog ops Q rest (a.put o.dst (.agg Z)) w) : wpList Try.prog ops Q (o :: rest) a w :=
  wpList_plain hgd fun _ hK => by
    have e : (execOp a.eval o).run Try.prog w = .ok (.value (.agg Z)) w := by
      unfold execOp
      simp only [ho, Array.map_empty, Sem.run_bind]
      simp only [hb, Result.andThen_ok, Sem.run_pure]
    unfold Oper.wp
    rw [e]
    exact hK _ _ h
theorem wpList_build98k (hgd : o.guard = none) (x : Operand) (ho : o.op = .build 98 #[(0, x)]) (k : Int) (hx : a.eval x = .int .i64 k) {Z : Array Value}
    (hb : ∀ u, (Instr.build 98 #[(0, .int .i64 k)]).run Try.prog u = .ok (.agg Z) u) (h : wpList Try.prog ops Q rest (a.put o.dst (.agg Z)) w) : wpList Try.prog ops Q (o :: rest) a w :=
  wpList_plain hgd fun _ hK => by
    have e : (execOp a.eval o).run Try.prog w = .ok (.value (.agg Z)) w := by simp [execOp, ho, hx, hb]
    unfold Oper.wp
    rw [e]
    exact hK _ _ h
end
variable {w : World} {L : Loc} {t : St}
def newK (w : World) (d : Nat) : KLoc := ⟨w.heap.size + 2, d, w.heap.size, w.heap.size + 1, [], fun _ => ⟨0, false, w.heap.size, w.heap.size, nought⟩⟩
def newC (size : Int) : CSt := ⟨size, []⟩
theorem newC_at {size : Int} (hs : 1 ≤ size ∧ size ≤ 4096) {Z : Array Value} (hZ : Z = rowV 0 false (ptr w.heap.size) (ptr w.heap.size) nought) :
    CacheAt (((w.alloc (.cells Z 98)).alloc (.map #[] 0)).alloc (.cells #[ptr (w.heap.size + 2), ptr L.d, .int .i64 size, .map (some (w.heap.size + 1)), ptr w.heap.size, .int .i64 0] 73)) (newK w L.d) (newC size) := by
  subst hZ
  have h1 := heap_alloc_new w (.cells (rowV 0 false (ptr w.heap.size) (ptr w.heap.size) nought) 98)
  have h2 := heap_alloc_new ((w.alloc (.cells (rowV 0 false (ptr w.heap.size) (ptr w.heap.size) nought) 98)).alloc (.map #[] 0)) (.cells #[ptr (w.heap.size + 2), ptr L.d, .int .i64 size, .map (some (w.heap.size + 1)), ptr w.heap.size, .int .i64 0] 73)
  have hm := MapIs.made (P := Try.prog) (k := 3) (w.alloc (.cells (rowV 0 false (ptr w.heap.size) (ptr w.heap.size) nought) 98))
  have e1 : ∀ (u : World) (x : Obj), (u.alloc x).heap.size = u.heap.size + 1 := fun u x => by simp
  rw [e1, e1] at h2
  rw [e1] at hm
  refine ⟨h2, ?_, ?_, ⟨rfl, rfl⟩, by simp [newK], rfl, ⟨hs, by simp [newC]; omega, by simp [newC], by simp [newC]⟩⟩
  · exact hm.kept ((below_new _ _).block _ (by simp))
  · rintro g (rfl | hg)
    · exact heap_kept (heap_kept h1 (below_new _ _)) (below_new _ _)
    · simp [newK] at hg
set_option maxHeartbeats 1000000 in
theorem newC_ok (hD : DiskAt w L t) {size : Int} (hs : 1 ≤ size ∧ size ≤ 4096) :
    Calls Try.prog 11 #[ptr L.d, .int .i64 size] w fun e w' => e = .returned (.tuple #[ptr (newK w L.d).c, .int .i64 0]) ∧ CacheAt w' (newK w L.d) (newC size) ∧ Below w.heap.size w w' := by
  have hl := len_of hD
  have hn := hD.ok.n
  have hb := built98
  have hmm := @run_makeMap Try.prog
  have hz0 : ¬ t.n = 0 := by omega
  have s2 := rowV_set2 0 false nilp nilp (ptr w.heap.size) nought
  have s3 := rowV_set3 0 false (ptr w.heap.size) nilp (ptr w.heap.size) nought
  have g2 := rowV_get2 0 false nilp nilp nought
  have g3 := rowV_get3 0 false (ptr w.heap.size) nilp nought
  have HA : Hid (∀ Z, Z = rowV 0 false (ptr w.heap.size) (ptr w.heap.size) nought → CacheAt (((w.alloc (.cells Z 98)).alloc (.map #[] 0)).alloc (.cells #[ptr (w.heap.size + 2), ptr L.d, .int .i64 size, .map (some (w.heap.size + 1)), ptr w.heap.size, .int .i64 0] 73)) (newK w L.d) (newC size)) := fun Z hZ => newC_at hs hZ
  clear hD
  generalize h0 : rowV 0 false nilp nilp nought = Z at *
  generalize h1 : rowV 0 false (ptr w.heap.size) nilp nought = Z1 at *
  generalize h2 : rowV 0 false (ptr w.heap.size) (ptr w.heap.size) nought = Z2 at *
  have HZ := HA.out Z2 rfl
  have HB : Hid (CacheAt _ _ _) := HZ
  clear HZ HA h0 h1 h2
  unfold ptr nilp at *
  go_enter Try.func11, Try.ntmps11
  go_wp2_with (first | (go_at_call 41; refine hl.mono ?_; rintro e W ⟨rfl, rfl⟩) | refine wpList_build98 rfl rfl hb ?_)
  go_ret2
  refine ⟨rfl, HB.out, ?_⟩
  exact (((Below.refl _ _).alloc (Nat.le_refl _) _).alloc (by simp) _).alloc (by simp; omega) _
end Go.Proofs.Ytencclpcebpgmaa
