/- Several texts joined: the log, its cache and its disk, of the program and of the document; no condition. -/
import Derived.Shelf.Sort.Plain
import Derived.Test.YtichojdcoegboaaGreatProg
import Derived.Test.YtichojdcoegboaaGreatK4
import Derived.Lib.SortBridge
import Derived.Maps.AppendAt
import Derived.Maps.OwnOps
import Derived.Maps.OwnSet
import Derived.LaidEqlPtr
namespace Go.Proofs
open Go.Shelf
def Tryz.lays189_ren : Go.Shelf.Ren := ⟨fun | 189 => 67 | 125 => 101 | 257 => 100 | 128 => 124 | 129 => 125 | 294 => 115 | 295 => 116 | 296 => 117 | 297 => 118 | 298 => 119 | 299 => 120 | 216 => 121 | 300 => 122 | 301 => 123 | 328 => 143 | 329 => 144 | 330 => 145 | 331 => 146 | 332 => 147 | 215 => 148 | 343 => 154 | n => n, fun | 28 => 90 | 3 => 3 | 46 => 134 | 0 => 0 | 51 => 156 | 53 => 158 | 4 => 4 | 183 => 150 | 182 => 149 | 131 => 116 | 5 => 5 | 9 => 9 | 218 => 169 | 222 => 173 | 228 => 180 | 229 => 181 | n => n, fun | n => n⟩
theorem Tryz.lays189 : Go.Proofs.Lays.n189 Tryz.prog Tryz.lays189_ren := {
 mixed := by kernel_rfl
 f125 := Tryz.func101.trans (congrArg some (by kernel_rfl))
 f128 := Tryz.func124.trans (congrArg some (by kernel_rfl))
 f129 := Tryz.func125.trans (congrArg some (by kernel_rfl))
 f189 := Tryz.func67.trans (congrArg some (by kernel_rfl))
 f215 := Tryz.func148.trans (congrArg some (by kernel_rfl))
 f216 := Tryz.func121.trans (congrArg some (by kernel_rfl))
 f257 := Tryz.func100.trans (congrArg some (by kernel_rfl))
 f294 := Tryz.func115.trans (congrArg some (by kernel_rfl))
 f295 := Tryz.func116.trans (congrArg some (by kernel_rfl))
 f296 := Tryz.func117.trans (congrArg some (by kernel_rfl))
 f297 := Tryz.func118.trans (congrArg some (by kernel_rfl))
 f298 := Tryz.func119.trans (congrArg some (by kernel_rfl))
 f299 := Tryz.func120.trans (congrArg some (by kernel_rfl))
 f300 := Tryz.func122.trans (congrArg some (by kernel_rfl))
 f301 := Tryz.func123.trans (congrArg some (by kernel_rfl))
 f328 := Tryz.func143.trans (congrArg some (by kernel_rfl))
 f329 := Tryz.func144.trans (congrArg some (by kernel_rfl))
 f330 := Tryz.func145.trans (congrArg some (by kernel_rfl))
 f331 := Tryz.func146.trans (congrArg some (by kernel_rfl))
 f332 := Tryz.func147.trans (congrArg some (by kernel_rfl))
 f343 := Tryz.func154.trans (congrArg some (by kernel_rfl))
 t0 := Tryz.underlying0
 a0 := Tryz.isAgg0
 z0 := Tryz.sizeOf0
 v0 := Tryz.zeroValue0
 t3 := Tryz.underlying3
 a3 := Tryz.isAgg3
 z3 := Tryz.sizeOf3
 v3 := Tryz.zeroValue3
 t4 := Tryz.underlying4
 a4 := Tryz.isAgg4
 z4 := Tryz.sizeOf4
 v4 := Tryz.zeroValue4
 t5 := Tryz.underlying5
 a5 := Tryz.isAgg5
 z5 := Tryz.sizeOf5
 v5 := Tryz.zeroValue5
 t9 := Tryz.underlying9
 a9 := Tryz.isAgg9
 z9 := Tryz.sizeOf9
 v9 := Tryz.zeroValue9
 t28 := Tryz.underlying90
 a28 := Tryz.isAgg90
 z28 := Tryz.sizeOf90
 v28 := Tryz.zeroValue90
 t46 := Tryz.underlying134
 a46 := Tryz.isAgg134
 z46 := Tryz.sizeOf134
 v46 := Tryz.zeroValue134
 t51 := Tryz.underlying156
 a51 := Tryz.isAgg156
 z51 := Tryz.sizeOf156
 v51 := Tryz.zeroValue156
 t53 := Tryz.underlying158
 a53 := Tryz.isAgg158
 z53 := Tryz.sizeOf158
 v53 := Tryz.zeroValue158
 t131 := Tryz.underlying116
 a131 := Tryz.isAgg116
 z131 := Tryz.sizeOf116
 v131 := Tryz.zeroValue116
 t182 := Tryz.underlying149
 a182 := Tryz.isAgg149
 z182 := Tryz.sizeOf149
 v182 := Tryz.zeroValue149
 t183 := Tryz.underlying150
 a183 := Tryz.isAgg150
 z183 := Tryz.sizeOf150
 v183 := Tryz.zeroValue150
 t218 := Tryz.underlying169
 a218 := Tryz.isAgg169
 z218 := Tryz.sizeOf169
 v218 := Tryz.zeroValue169
 t222 := Tryz.underlying173
 a222 := Tryz.isAgg173
 z222 := Tryz.sizeOf173
 v222 := Tryz.zeroValue173
 t228 := Tryz.underlying180
 a228 := Tryz.isAgg180
 z228 := Tryz.sizeOf180
 v228 := Tryz.zeroValue180
 t229 := Tryz.underlying181
 a229 := Tryz.isAgg181
 z229 := Tryz.sizeOf181
 v229 := Tryz.zeroValue181 }
open Go.Sort Go.RowKit in
theorem Tryz.slices_Sort_int (blk off cap : Nat) (zs : List Int) (w : World) (hH : Holds (Value.int .i64) w blk off zs.toArray) (hblk : blk < w.heap.size) (hsz : zs.length < 4611686018427387904) :
  Calls Tryz.prog 67 #[.slice (some ⟨blk, off, none⟩) zs.length cap] w fun e w' =>
   e = .returned (.tuple #[]) ∧ ∃ n os, w' = grow (putRow (Value.int .i64) (Sort.ahead w n) blk off (zs.mergeSort fun x y => decide (x ≤ y)).toArray) os := Any.slices_Sort_int Tryz.lays189 blk off cap zs w hH hblk hsz
end Go.Proofs
namespace Go.Proofs.YtichojdcoegboaaGreatW
open Go.RowKit Go.Sort
variable {w : World} {L : Loc} {s : St}
theorem heap_setCells (b : Nat) : ∀ (vs : List Value) (o : Nat) (w : World) (k : Nat), k ≠ b → (w.setCells b o vs).heap[k]? = w.heap[k]?
 | [], _, _, _, _ => rfl
 | v :: r, o, w, k, h => (heap_setCells b r (o + 1) _ k h).trans (Below.heap_setCell w _ v k h)
theorem size_setCells (b : Nat) : ∀ (vs : List Value) (o : Nat) (w : World), (w.setCells b o vs).heap.size = w.heap.size
 | [], _, _ => rfl
 | v :: r, o, w => (size_setCells b r (o + 1) _).trans (by simp)
theorem rest_setCells (b : Nat) : ∀ (vs : List Value) (o : Nat) (w : World), (w.setCells b o vs).os = w.os ∧ (w.setCells b o vs).tape = w.tape ∧ (w.setCells b o vs).output = w.output
 | [], _, _ => ⟨rfl, rfl, rfl⟩
 | v :: r, o, w => rest_setCells b r (o + 1) (w.setCell ⟨b, o, none⟩ v)
def sortL (zs : List Int) : List Int := zs.mergeSort fun x y => decide (x ≤ y)
theorem sort_ints {g cap : Nat} (zs : List Int) (hc : ∀ j, j < zs.length → w.cell? ⟨g, 0 + j, none⟩ = some (.int .i64 (zs.getD j 0))) (hf : ∀ j, j < zs.length → w.frozen? ⟨g, 0 + j, none⟩ = false) (hg : g < w.heap.size) (hn : zs.length < 4611686018427387904) :
  Calls Tryz.prog 67 #[.slice (some ⟨g, 0, none⟩) zs.length cap] w fun e w' => e = .returned (.tuple #[]) ∧ (∀ j, j < zs.length → w'.cell? ⟨g, j, none⟩ = some (.int .i64 ((sortL zs).getD j 0))) ∧ Fr (fun i => i = g) w w' := by
 have hH : Holds (Value.int .i64) w g 0 zs.toArray := by
  have := Lib.holds_of_ints (n := zs.length) (Nat.le_refl _) hc hf
  rwa [List.take_length] at this
 refine (Tryz.slices_Sort_int g 0 cap zs w hH hg hn).mono ?_
 rintro e w' ⟨rfl, q, os, hw⟩
 have hl : (sortL zs).length = zs.length := (List.mergeSort_perm _ _).length_eq
 rw [Lib.sorted_world _ w g 0 q _ _ os hH (by simp)] at hw
 refine ⟨rfl, fun j hj => ?_, ?_⟩
 ·have h1 := Lib.cells_sorted_ints (W := w) (b := g) (off := 0) (q := q) (os := os) (zs := zs) (ys := sortL zs) (n := zs.length) (Nat.le_refl _) hl hc j (by rw [List.drop_length, List.append_nil, hl]; exact hj)
  rw [List.drop_length, List.append_nil, Nat.zero_add] at h1
  rw [hw]
  exact h1
 ·rw [hw]
  have hr := rest_setCells g ((sortL zs).map (Value.int .i64)) 0 (w.drewN q)
  have hs := size_setCells g ((sortL zs).map (Value.int .i64)) 0 (w.drewN q)
  have hs' : ((w.drewN q).setCells g 0 ((sortL zs).map (Value.int .i64))).heap.size = w.heap.size := hs.trans (by simp)
  refine ⟨hr.1.trans rfl, hr.2.1.trans rfl, hr.2.2.trans rfl, by rw [size_grow]; show w.heap.size ≤ ((w.drewN q).setCells g 0 ((sortL zs).map (Value.int .i64))).heap.size + _; omega, fun k hk hn => ?_⟩
  rw [heap_grow_old _ _ (by show k < ((w.drewN q).setCells g 0 ((sortL zs).map (Value.int .i64))).heap.size; omega)]
  exact (heap_setCells g _ 0 _ k hn).trans (by simp)
def celRow (c : Cel) : List Value := .int .i64 c.1 :: (blk c.2).toList
def celCells (l : List Cel) : List Value := l.flatMap celRow
theorem celRow_len (c : Cel) : (celRow c).length = 1025 := by simp [celRow, blk_size]
theorem celCells_append (a b : List Cel) : celCells (a ++ b) = celCells a ++ celCells b := by simp [celCells]
theorem celCells_one (c : Cel) : celCells [c] = celRow c := by simp [celCells]
theorem celRow_one (c : Cel) : ∀ v ∈ celRow c, v.oneCell' = true := by
 intro v hv
 simp only [celRow, List.mem_cons] at hv
 rcases hv with rfl | h
 ·rfl
 ·have := blk_one c.2
  rw [Array.all_eq_true_iff_forall_mem] at this
  exact this v (by simpa using h)
def withHeld (s : St) (l : List Int) : List Cel := l.map fun x => (x, (s.held x).getD nought)
theorem rise_of (s : St) : ∀ (l : List Int) (m : Int), (∀ x ∈ l, m < x) → l.Pairwise (fun a b => a < b) → Rise m (withHeld s l)
 | [], _, _, _ => trivial
 | x :: t, m, h, hp => by
  have h2 := List.pairwise_cons.1 hp
  exact ⟨h x (by simp), rise_of s t x h2.1 h2.2⟩
theorem atL_in (s : St) : ∀ (l : List Int) (k : Int), (k ∈ l → atL (withHeld s l) k = (s.held k).getD nought) ∧ (k ∉ l → atL (withHeld s l) k = nought)
 | [], k => ⟨fun h => by simp at h, fun _ => rfl⟩
 | x :: t, k => by
  have ih := atL_in s t k
  show (k ∈ x :: t → (if x = k then _ else atL (withHeld s t) k) = _) ∧ (k ∉ x :: t → (if x = k then _ else atL (withHeld s t) k) = _)
  by_cases e : x = k
  ·subst e
   exact ⟨fun _ => by rw [if_pos rfl], fun h => absurd (List.mem_cons_self) h⟩
  ·rw [if_neg e]
   refine ⟨fun h => ih.1 ?_, fun h => ih.2 fun q => h (List.mem_cons_of_mem _ q)⟩
   rcases List.mem_cons.1 h with q | q
   ·exact absurd q.symm e
   ·exact q
structure IsImage (s : St) (l : List Cel) : Prop where
 rise : Rise (-1) l
 sound : Sound l
 top : ∀ c ∈ l, c.1 < s.n
 at_ : ∀ k, atL l k = (s.held k).getD nought
theorem image_of (h : Ok s) (zs : List Int) (hn : zs.Nodup) (hm : ∀ x, x ∈ zs ↔ (s.held x).isSome = true) : IsImage s (withHeld s (sortL zs)) := by
 have hp : (sortL zs).Perm zs := List.mergeSort_perm _ _
 have hm' : ∀ x, x ∈ sortL zs ↔ (s.held x).isSome = true := fun x => hp.mem_iff.trans (hm x)
 have hb : ∀ x ∈ sortL zs, ∃ f, s.held x = some f ∧ (0 ≤ x ∧ x < s.n) ∧ Can f ∧ f ≠ nought := fun x hx => by
  obtain ⟨f, hf⟩ := Option.isSome_iff_exists.1 ((hm' x).1 hx)
  exact ⟨f, hf, h.held x f hf⟩
 refine ⟨rise_of s _ _ (fun x hx => by obtain ⟨f, _, h1, _⟩ := hb x hx; omega) ?_, fun c hc => ?_, fun c hc => ?_, fun k => ?_⟩
 ·have h1 : (sortL zs).Pairwise (fun a b => decide (a ≤ b) = true) := List.pairwise_mergeSort (fun a b c h1 h2 => by simp at *; omega) (fun a b => by simp; omega) zs
  have h2 : (sortL zs).Nodup := hp.nodup_iff.2 hn
  exact (h1.and h2).imp fun {a b} q => by
   have q1 : a ≤ b := by simpa using q.1
   have q2 : a ≠ b := q.2
   omega
 ·obtain ⟨x, hx, rfl⟩ := List.mem_map.1 hc
  obtain ⟨f, hf, _, h2, h3⟩ := hb x hx
  simp only [hf, Option.getD_some]
  exact ⟨h2, h3⟩
 ·obtain ⟨x, hx, rfl⟩ := List.mem_map.1 hc
  obtain ⟨f, hf, h1, _⟩ := hb x hx
  exact h1.2
 ·by_cases hk : k ∈ sortL zs
  ·exact (atL_in s _ k).1 hk
  ·rw [(atL_in s _ k).2 hk]
   cases hh : s.held k with
   | none => rfl
   | some f => exact absurd ((hm' k).2 (by rw [hh]; rfl)) hk
end Go.Proofs.YtichojdcoegboaaGreatW
namespace Go.Proofs.YtichojdcoegboaaGreatW
open Go.RowKit Go.Maps
variable {w : World} {L : Loc} {s : St}
theorem info85 : (Tryz.prog.info? 76).map (fun i => (i.zero, i.size, i.bytes)) = some (some (.agg (celRow (0, nought)).toArray), 1025, 1032) := by kernel_rfl
theorem zero85 : ∀ w, (zeroValue 76).run Tryz.prog w = .ok (.agg (celRow (0, nought)).toArray) w := by
 obtain ⟨i0, hi0, hz0, hz1, hz2⟩ := info_parts info85
 exact (zero_of_info (t := 76) (P := Tryz.prog) (by rw [hi0]; exact congrArg some (Prod.ext hz0 hz1))).1
theorem size85 : (Tryz.prog.info? 76).map (·.size) = some 1025 := by
 obtain ⟨i0, hi0, hz0, hz1, hz2⟩ := info_parts info85
 rw [hi0]
 exact congrArg some hz1
theorem cel_size (c : Cel) : (celRow c).toArray.size = 1025 := by rw [List.size_toArray, celRow_len]
theorem fill_cel (p : Int) (f : Nat → Int) (Z : Array Value) (hZ : Z.size = 1025) (place : Nat → Option (Nat × Nat)) (h0 : place 0 = some (0, 1)) (h1 : place 1 = some (1, 1024)) :
  Instr.fill place Z [(0, .int .i64 p), (1, .agg (blk f))] = some (celRow (p, f)).toArray := by
 have hb := blk_size f
 unfold Instr.fill
 rw [h0]
 simp only [Value.cells, List.size_toArray, List.length_cons, List.length_nil, hZ]
 rw [if_neg (by simp)]
 unfold Instr.fill
 rw [h1]
 simp only [Value.cells, hb]
 rw [fold_over 0 #[.int .i64 p] Z (by rw [hZ]; simp)]
 rw [if_neg (by simp [hZ])]
 rw [fold_over 1 (blk f) _ (by simp [hZ, hb])]
 have hl : Z.toList.length = 1025 := by rw [Array.length_toList, hZ]
 obtain ⟨z0, r, hz, hr⟩ : ∃ z0 r, Z.toList = z0 :: r ∧ r.length = 1024 := by
  cases hz : Z.toList with
  | nil => rw [hz, List.length_nil] at hl; omega
  | cons z0 r => exact ⟨z0, r, rfl, by rw [hz, List.length_cons] at hl; omega⟩
 rw [hz]
 simp only [List.take_zero, List.nil_append, List.take_succ_cons, List.drop_succ_cons, List.drop_zero, List.singleton_append, List.size_toArray, List.length_cons, List.length_nil, hb, Nat.zero_add, Nat.reduceAdd]
 unfold Instr.fill
 rw [List.drop_eq_nil_of_le (by omega), List.append_nil]
 rfl
theorem build85 (p : Int) (f : Nat → Int) (u : World) : (Instr.build 76 #[(0, .int .i64 p), (1, .agg (blk f))]).run Tryz.prog u = .ok (.agg (celRow (p, f)).toArray) u := by
 have z := zero85
 have hZ : (celRow (0, nought)).toArray.size = 1025 := cel_size _
 generalize (celRow (0, nought)).toArray = Z at *
 have hf := fill_cel p f Z hZ
 simp [Instr.build, z, run_underlying Tryz.underlying76, Value.cells]
 rw [hf _ rfl rfl]
 simp only [Sem.run_pure]
theorem wpList_build85 {ops : Array Oper} {rest : List Oper} {o : Oper} {a : Act} {w : World} {Q : Exit → Act → World → Prop} (hgd : o.guard = none) (x y : Operand) (ho : o.op = .build 76 #[(0, x), (1, y)])
  (p : Int) (f : Nat → Int) (hx : a.eval x = .int .i64 p) (hy : a.eval y = .agg (blk f)) (h : wpList Tryz.prog ops Q rest (a.put o.dst (.agg (celRow (p, f)).toArray)) w) : wpList Tryz.prog ops Q (o :: rest) a w :=
 wpList_plain hgd fun _ hK => by
  have e := build85 p f w
  generalize (celRow (p, f)).toArray = Z at *
  have e' : (execOp a.eval o).run Tryz.prog w = .ok (.value (.agg Z)) w := by simp [execOp, ho, hx, hy, e]
  unfold Oper.wp
  rw [e']
  exact hK _ _ h
theorem run_make30 (u : World) (n : Nat) (hn : n * 1032 ≤ 281474976710656) :
  ∃ cur, cur.size = n * 1025 ∧ (Instr.makeSlice 22 (.int .i64 (n : Int)) (.int .i64 (n : Int))).run Tryz.prog u = .ok (.slice (some ⟨u.heap.size, 0, none⟩) n n) (u.alloc (.cells cur 76)) := by
 obtain ⟨i0, hi0, hz0, hz1, hz2⟩ := info_parts info85
 have h := run_make (P := Tryz.prog) u 22 76 i0 _ Tryz.underlying22 hi0 hz0 .i64 .i64 n n (by omega) (Int.le_refl _) (by rw [hz2]; omega) (by omega)
 rw [Int.toNat_natCast, hz1] at h
 exact ⟨_, by simp [madeCells], h⟩
theorem run_make65c (u : World) (n : Nat) (hn : n * 8 ≤ 281474976710656) :
  (Instr.makeSlice 90 (.int .i64 0) (.int .i64 (n : Int))).run Tryz.prog u = .ok (.slice (some ⟨u.heap.size, 0, none⟩) 0 n) (u.alloc (.cells (iRow nought n) 3)) := by
 obtain ⟨i0, hi0, hz0, hz1, hz2⟩ := info_parts info3b
 have h := run_make (P := Tryz.prog) u 90 3 i0 (.int .i64 0) Tryz.underlying90 hi0 hz0 .i64 .i64 0 n (by omega) (by omega) (by rw [hz2]; omega) (by omega)
 rw [Int.toNat_natCast, hz1] at h
 rw [h]
 simp [Value.cells, made_ints]
def putCel (cur : Array Value) (off : Nat) (c : Cel) : Array Value := (cur.toList.take off ++ celRow c ++ cur.toList.drop (off + 1025)).toArray
theorem wpList_store85 {ops : Array Oper} {rest : List Oper} {o : Oper} {a : Act} {w : World} {Q : Exit → Act → World → Prop} (hgd : o.guard = none) (x y : Operand) (ho : o.op = .store 76 x y)
  (g off : Nat) (c : Cel) (hx : a.eval x = .pointer (some ⟨g, off, none⟩)) (hy : a.eval y = .agg (celRow c).toArray) (cur : Array Value) (hg : w.heap[g]? = some (.cells cur 76)) (hfit : off + 1025 ≤ cur.size)
  (h : wpList Tryz.prog ops Q rest (a.put o.dst undef) (w.setRow g (putCel cur off c))) : wpList Tryz.prog ops Q (o :: rest) a w :=
 wpList_plain hgd fun _ hK => by
  have hs := cel_size c
  have hl := celRow_len c
  have hst := run_storeCells_at Tryz.prog g off 76 (celRow c) 0 cur w hg (by rw [hl]; omega) (celRow_one c)
  rw [hl] at hst
  have hr : (Instr.storeAt 76 (.pointer (some ⟨g, off, none⟩)) (.agg (celRow c).toArray)).run Tryz.prog w = .ok () (w.setRow g (cur.toList.take off ++ celRow c ++ cur.toList.drop (off + 1025)).toArray) := by
   obtain ⟨i0, hi0, hz0, hz1, hz2⟩ := info_parts info85
   simp only [Nat.add_zero] at hst
   generalize celRow c = R at *
   simp [Instr.storeAt, Instr.sureAddr, storeVar, sizeOf, typeInfo, hi0, Value.cells, hl, hz1, hst]
  unfold Oper.wp execOp
  simp only [ho, hx, hy, Sem.run_bind, hr, Result.andThen_ok, Sem.run_pure]
  exact hK _ _ h
theorem wpList_lookM1 {P : Program} {k : TypeId} {b : Nat} {m : Int → Option Value} {ops : Array Oper} {rest : List Oper} {o : Oper} {a : Act} {w : World} {Q : Exit → Act → World → Prop} (hg : o.guard = none) (mo xo : Operand) (t : TypeId) (hop : o.op = Op.lookup t mo xo false) (e : TypeId) (hk : P.underlying k = some (.int .i64)) (K : Keyed P k) (ht : P.underlying t = some (.map k e))
  (hm : a.eval mo = .map (some b)) (h : MapIs P k w b m) {z : Value} (hz : (zeroValue e).run P w = .ok z w) (x : Int) (hx : (Lit.int .i64 x).wf = true) (hxo : a.eval xo = .int .i64 x) (v : Value) (hv : m x = some v)
  (hK : wpList P ops Q rest (a.put o.dst v) w) : wpList P ops Q (o :: rest) a w := by
 refine wpList_plain hg fun K' hK' => ?_
 have hr := look_at hk K ht h hz hx
 rw [hv] at hr
 unfold Oper.wp
 simp [execOp, hop, hm, hxo, hr, Result.andThen]
 exact hK' _ _ hK
structure Col (m : Int → Option Value) (left : Lit → Bool) (zs : List Int) : Prop where
 nodup : zs.Nodup
 mem : ∀ x, x ∈ zs ↔ ((m x).isSome = true ∧ left (.int .i64 x) = false)
theorem Col.start {D : DataW Value} {m : Int → Option Value} (hv : Views D m) : Col m (Maps.has D) [] := by
 refine ⟨List.nodup_nil, fun x => ⟨fun h => by simp at h, fun h => ?_⟩⟩
 cases hm : m x with
 | none => rw [hm] at h; simp at h
 | some v => rw [(hv.some x v hm).2.1] at h; simp at h
theorem Col.step {D : DataW Value} {m : Int → Option Value} {left : Lit → Bool} {zs : List Int} (h : Col m left zs) (hv : Views D m) {x : Int} {y : DataW Value} (hl : left (.int .i64 x) = true) (hat : ∀ zd, D.atKey (.int .i64 x) zd = y) :
  Col m (fun z => left z && !z.sameKey (.int .i64 x)) (zs ++ [x]) ∧ (m x).isSome = true := by
 have hsome : (m x).isSome = true := by
  cases hm : m x with
  | some v => rfl
  | none =>
   have h1 := hv.none x hm
   have e1 := hat (.held (.bool true))
   have e2 := hat (.held (.bool false))
   rw [atKey_of_not_has h1] at e1 e2
   rw [← e2] at e1
   cases e1
 refine ⟨⟨?_, fun z => ?_⟩, hsome⟩
 ·rw [List.nodup_append]
  refine ⟨h.nodup, by simp, fun a ha b hb e => ?_⟩
  have hb' : b = x := by simpa using hb
  subst hb'
  subst e
  rw [((h.mem a).1 ha).2] at hl
  cases hl
 ·rw [List.mem_append, h.mem z]
  by_cases e : z = x
  ·subst e
   simp [hsome, Lit.sameKey]
  ·have hne : (Lit.int .i64 z).sameKey (.int .i64 x) = false := by simp [Lit.sameKey, e]
   simp [hne, e]
theorem Col.done {m : Int → Option Value} {left : Lit → Bool} {zs : List Int} (h : Col m left zs) (hl : ∀ kl, left kl = false) : ∀ x, x ∈ zs ↔ (m x).isSome = true := fun x => by
 rw [h.mem x]
 simp [hl]
end Go.Proofs.YtichojdcoegboaaGreatW
namespace Go.Proofs.YtichojdcoegboaaGreatW
open Go.RowKit Go.Maps
variable {w : World} {L : Loc} {s : St}
theorem size32 : (Tryz.prog.info? 24).map (·.size) = some 2 := by kernel_rfl
theorem ret32 {fn : Func} {p : Tmp} {R : Ending → World → Prop} {a : Act} {w : World} (h : fn.results = #[.cell p 24]) (g : Nat) (cs : Array Value)
  (hp : a.tmps.getD p undef = .pointer (some ⟨g, 0, none⟩)) (hg : w.heap[g]? = some (.cells cs 24)) (hs : cs.size = 2) (hd : a.defers = []) (hR : R (.returned (.agg cs)) w) : bodyPost Tryz.prog fn R .ret a w :=
 bodyPost_ret (results_cell_row h a.tmps w g 24 cs (0, 0) _ hp hg Tryz.underlying24 rfl (by rw [hs]; exact size32)) hd hR
theorem take_cel {l : List Cel} {k : Nat} {c : Cel} {cur : Array Value} (hc : l[k]? = some c) (ht : cur.toList.take (k * 1025) = celCells (l.take k)) (hs : (k + 1) * 1025 ≤ cur.size) :
  (putCel cur (k * 1025) c).toList.take ((k + 1) * 1025) = celCells (l.take (k + 1)) := by
 have h0 : k * 1025 ≤ cur.size := Nat.le_trans (Nat.mul_le_mul_right _ (Nat.le_succ k)) hs
 have h1 : (cur.toList.take (k * 1025) ++ celRow c).length = (k + 1) * 1025 := by
  rw [List.length_append, List.length_take, celRow_len, Array.length_toList, Nat.min_eq_left h0, Nat.succ_mul]
 unfold putCel
 rw [List.toList_toArray, ← h1, List.take_left, ht, take_snoc hc, celCells_append, celCells_one]
theorem size_cel {off n : Nat} {c : Cel} {cur : Array Value} (hn : cur.size = n) (hs : off + 1025 ≤ n) : (putCel cur off c).size = n := by
 unfold putCel
 rw [List.size_toArray, List.length_append, List.length_append, List.length_take, List.length_drop, celRow_len, Array.length_toList, hn]
 omega
set_option maxRecDepth 20000 in
set_option maxHeartbeats 1000000 in
theorem image_walk (h : DiskAt w L s) : Calls Tryz.prog 14 #[.pointer (some ⟨L.d, 0, none⟩)] w fun e w' => ∃ (g : Nat) (l : List Cel), e = .returned (.agg #[.int .i64 s.n, .slice (some ⟨g, 0, none⟩) l.length l.length]) ∧ IsImage s l ∧ w'.heap[g]? = some (.cells (celCells l).toArray 76) ∧ w.heap.size ≤ g ∧ Below w.heap.size w w' := by
 have h1 := h.later (below_new w (.cells #[.int .i64 0, .slice none 0 0] 24))
 have h0 := h1.c0
 have c2 := h1.c2
 have hlt := h.lt L.d (.inl rfl)
 obtain ⟨D, hown, hv⟩ := h1.held
 have hbl : L.hb < w.heap.size := h.lt L.hb (.inr (.inl rfl))
 have hsz : Maps.size D ≤ 1048576 := size_top Tryz.underlying3 hown keyed3 hv
 have hmk := fun u => run_make65c u (Maps.size D) (by omega)
 have HD : Hid (DiskAt w L s) := h
 clear h h1
 go_enter Tryz.func14, Tryz.ntmps14
 go_wp2_with (first | (go_at_call 65; refine (none_no h0).mono ?_; rintro e W ⟨rfl, he⟩; obtain rfl := he.symm) | (at_len; refine wpList_len_own _ rfl (.tmp 14) 92 rfl 3 64 Tryz.underlying92 valElem L.hb top D rfl hown ?_) | (at_range; refine wpList_range_own _ rfl (.tmp 20) 92 rfl 3 64 keyed3 Tryz.underlying92 _ L.hb top D rfl (hown.alloc _) ?_; intro w0 hrg0 hg0 hs0))
 have e1 : ((w.alloc (.cells #[.int .i64 0, .slice none 0 0] 24)).alloc (.cells (iRow nought (Maps.size D)) 3)).heap.size = w.heap.size + 2 := by simp
 rw [e1] at hrg0 hs0 ⊢
 go_frame
 have hB0 : Below w.heap.size w w0 := (((Below.refl _ _).alloc (Nat.le_refl _) _).alloc (by simp) _).grown hg0 (by simp; omega) (fun j hj => by cases hj)
 have hR0 : w0.heap[w.heap.size]? = some (.cells #[.int .i64 0, .slice none 0 0] 24) := by
  rw [hg0.block w.heap.size (by simp; omega) (by simp)]
  exact heap_kept (heap_alloc_new w _) (below_new _ _)
 have hO0 : w0.ownsRow (w.heap.size + 1) 3 1 (.slice (some ⟨w.heap.size + 1, 0, none⟩) 0 (Maps.size D)) 0 [] := by
  refine ⟨rfl, .inr ⟨w.heap.size + 1, Maps.size D, iRow nought (Maps.size D), rfl, Nat.le_refl _, ?_, Nat.zero_le _, by unfold maxLen; omega, by rw [iRow_size]; omega, by simp⟩⟩
  rw [hg0.block (w.heap.size + 1) (by simp) (by simp)]
  have q := heap_alloc_new (w.alloc (.cells #[.int .i64 0, .slice none 0 0] 24)) (.cells (iRow nought (Maps.size D)) 3)
  rw [show (w.alloc (.cells #[.int .i64 0, .slice none 0 0] 24)).heap.size = w.heap.size + 1 by simp] at q
  exact q
 have HB0 : Hid (Below w.heap.size w w0) := hB0
 have HR0 : Hid (w0.heap[w.heap.size]? = some (.cells #[.int .i64 0, .slice none 0 0] 24)) := hR0
 have HO0 : Hid (w0.ownsRow (w.heap.size + 1) 3 1 (.slice (some ⟨w.heap.size + 1, 0, none⟩) 0 (Maps.size D)) 0 []) := hO0
 have HV : Hid (Views D (heldV s)) := hv
 clear hB0 hR0 hO0 hg0 hs0 hmk hown h0 c2 hv e1
 obtain ⟨i0, hi0, hz0, hz1, hz2⟩ := info_parts info3b
 generalize hBB : w.heap.size = B at *
 go_loopw [3] (fun s3 wx => ∃ (left : Lit → Bool) (cnt : Nat) (zs : List Int) (g cap : Nat), wx.ranges Tryz.prog 3 valElem L.hb (B + 2) top D left cnt ∧ Hid (Col (heldV s) left zs) ∧ s3 = .slice (some ⟨g, 0, none⟩) zs.length cap ∧
   Hid (wx.ownsRow (B + 1) 3 1 (.slice (some ⟨g, 0, none⟩) zs.length cap) zs.length (zs.map (Value.int .i64))) ∧ g ≠ B + 2 ∧ Hid (wx.heap[B]? = some (.cells #[.int .i64 0, .slice none 0 0] 24)) ∧ Hid (Below B w wx)) (fun _ wx => wx.rangeLeft L.hb (B + 2))
 case atStart => exact ⟨_, _, [], B + 1, Maps.size D, hrg0, Col.start HV.out, rfl, HO0.out, by omega, HR0.out, HB0.out⟩
 case round =>
  obtain ⟨left, cnt, zs, g, cap, hrg, HC, rfl, HO, hgne, HR, HB⟩ := hrel
  clear HB0 HR0 HO0 hrg0
  go_wp2_with (at_next; refine wpList_next_ranges _ rfl (.tmp 21) rfl 3 keyed3 valElem (Value.int .i64) (fun v : Value => v) (fun key kl hk => by obtain ⟨x, hx, _⟩ := Maps.keyOf_int_inv Tryz.underlying3 hk; exact ⟨x, hx⟩) (fun v _ _ => ⟨v, rfl⟩) L.hb (B + 2) top _ _ _ rfl hrg ?_ ?_)
  ·intro hc0 hl0
   have hmem := HC.out.done hl0
   have hmem' : ∀ x, x ∈ zs ↔ (s.held x).isSome = true := fun x => (hmem x).trans (by unfold heldV; cases s.held x <;> simp)
   have hI := image_of HD.out.ok zs HC.out.nodup hmem'
   have hzl : zs.length ≤ 1048576 := nodup_le 1048576 zs HC.out.nodup fun y hy => by
    cases hm : heldV s y with
    | none => have := (hmem y).1 hy; rw [hm] at this; cases this
    | some v => exact (HV.out.some y v hm).1
   have hgl := HO.out.lt g rfl
   have hcells : ∀ j, j < zs.length → wr.cell? ⟨g, 0 + j, none⟩ = some (.int .i64 (zs.getD j 0)) := fun j hj => by
    have q := HO.out.cells (g := g) rfl j (.int .i64 (zs.getD j 0)) (by rw [List.getElem?_map, List.getElem?_eq_getElem hj]; simp [List.getD, hj])
    rw [Go.WideShapes.add_plain] at q
    exact q
   have hfroz : ∀ j, j < zs.length → wr.frozen? ⟨g, 0 + j, none⟩ = false := fun j hj => by
    rcases HO.out.2 with ⟨h, _⟩ | ⟨g'', cap'', cur, h, _, hh, _⟩
    ·cases h
    ·injection h with h1 h2 h3
     injection h1 with h1
     injection h1 with h1
     rw [← h1] at hh
     exact Joins.unfrozen_of_block hh _
   have hS := sort_ints (cap := cap) zs hcells hfroz hgl.2 (by omega)
   have HI : Hid (IsImage s (withHeld s (sortL zs))) := hI
   have hsl : (sortL zs).length = zs.length := (List.mergeSort_perm _ _).length_eq
   have hsm : ∀ x, x ∈ sortL zs ↔ (s.held x).isSome = true := fun x => (List.mergeSort_perm zs _).mem_iff.trans (hmem' x)
   have HSM : Hid (∀ x, x ∈ sortL zs ↔ (s.held x).isSome = true) := hsm
   clear HC HO hrg hmem hmem' hI hcells hfroz hl0 hc0 hsm HV
   go_wp2_with (go_at_call 67; fail)
   refine hS.mono ?_
   rintro e W2 ⟨rfl, hcs, hF2⟩
   have hD2 : DiskAt W2 L s := HD.out.kept fun k hk => by
    have hk2 := HD.out.lt k hk
    rw [hBB] at hk2
    have q := HB.out.block k hk2
    exact (hF2.block k (by have := HB.out.size; omega) (by omega)).trans q
   have hB2 : Below B w W2 := ⟨hF2.os.trans HB.out.os, hF2.tape.trans HB.out.tape, hF2.output.trans HB.out.output, Nat.le_trans HB.out.size hF2.size, fun k hk => (hF2.block k (by have := HB.out.size; omega) (by omega)).trans (HB.out.block k hk)⟩
   have hR2 : W2.heap[B]? = some (.cells #[.int .i64 0, .slice none 0 0] 24) := (hF2.block B (Array.getElem?_eq_some_iff.1 HR.out).1 (by omega)).trans HR.out
   have hg2 : g < W2.heap.size := Nat.lt_of_lt_of_le hgl.2 hF2.size
   clear hS HB HR hF2 HD
   obtain ⟨cur, hcz, hmk⟩ := run_make30 W2 zs.length (by omega)
   have HC0 : Hid (∀ j, j < zs.length → W2.cell? ⟨g, j, none⟩ = some (.int .i64 ((sortL zs).getD j 0))) := hcs
   have HD2 : Hid (DiskAt W2 L s) := hD2
   have HB2 : Hid (Below B w W2) := hB2
   have HR2 : Hid (W2.heap[B]? = some (.cells #[.int .i64 0, .slice none 0 0] 24)) := hR2
   have hdlt : L.d < W2.heap.size := hD2.lt L.d (.inl rfl)
   have hBlt : B < W2.heap.size := (Array.getElem?_eq_some_iff.1 hR2).1
   clear hcs hD2 hB2 hR2
   go_wp2
   have HN : Hid ((W2.alloc (.cells cur 76)).heap[W2.heap.size]? = some (.cells cur 76)) := heap_alloc_new W2 _
   have HBn : Hid (Below W2.heap.size W2 (W2.alloc (.cells cur 76))) := below_new W2 _
   clear hmk
   generalize W2.alloc (.cells cur 76) = W3 at *
   generalize hG : W2.heap.size = G at *
   generalize hm : zs.length = m at *
   generalize hys : sortL zs = ys at *
   go_loopw [37] (fun s37 wx => ∃ (k : Nat) (cur : Array Value), k ≤ m ∧ s37 = .int .i64 k ∧ Hid (wx.heap[G]? = some (.cells cur 76) ∧ cur.size = m * 1025 ∧ cur.toList.take (k * 1025) = celCells ((withHeld s ys).take k)) ∧ Hid (Below G W2 wx)) (fun s37 _ => m - (intOf s37).toNat)
   case atStart => exact ⟨0, cur, by omega, rfl, ⟨HN.out, hcz, by rw [Nat.zero_mul, List.take_zero, List.take_zero]; rfl⟩, HBn.out⟩
   case round =>
    obtain ⟨k, cu, hk, rfl, HC, HB⟩ := hrel
    clear HN HBn
    by_cases hk2 : (k : Int) < m
    ·have hky : k < ys.length := by omega
     have hy : ys[k]? = some ys[k] := List.getElem?_eq_getElem hky
     have hyd : ys.getD k 0 = ys[k] := by simp [List.getD, hky]
     have hca := HC0.out k (by omega)
     rw [hyd] at hca
     have hmy : ys[k] ∈ ys := List.getElem_mem hky
     generalize ys[k] = y at *
     have hsome := (HSM.out y).1 hmy
     obtain ⟨f, hf⟩ := Option.isSome_iff_exists.1 hsome
     have hin := inTop_of HD2.out.ok (HD2.out.ok.held y f hf).1
     have hW := inTop.wf hin
     have hcl : (withHeld s ys)[k]? = some (y, f) := by unfold withHeld; rw [List.getElem?_map, hy]; simp [hf]
     have hca' : wr.cell? ⟨g, k, none⟩ = some (.int .i64 y) := (HB.out.cell (p := ⟨g, k, none⟩) (by show g < G; omega)).trans hca
     have hDr := HD2.out.kept (w' := wr) fun k hk => HB.out.block k (by have := HD2.out.lt k hk; omega)
     have c2 := hDr.c2
     have hHeld := hDr.held
     have hhv : heldV s y = some (.agg (blk f)) := by unfold heldV; simp only [hf, Option.map]
     obtain ⟨hn1, hn2, hn3⟩ := HC.out
     have hfit : (k + 1) * 1025 ≤ m * 1025 := Nat.mul_le_mul_right _ (by omega)
     have hfit2 : k * 1025 + 1025 ≤ cu.size := by rw [hn2, ← Nat.succ_mul]; exact hfit
     have HC2 : Hid ((wr.setRow G (putCel cu (k * 1025) (y, f))).heap[G]? = some (.cells (putCel cu (k * 1025) (y, f)) 76) ∧ (putCel cu (k * 1025) (y, f)).size = m * 1025 ∧ (putCel cu (k * 1025) (y, f)).toList.take ((k + 1) * 1025) = celCells ((withHeld s ys).take (k + 1))) :=
      ⟨setRow_heap _ _ _ _ _ _ hn1, size_cel hn2 (by rw [← hn2]; exact hfit2), take_cel hcl hn3 (by rw [hn2]; exact hfit)⟩
     have HB3 : Hid (Below G W2 (wr.setRow G (putCel cu (k * 1025) (y, f)))) := below_setRow HB.out (Nat.le_refl _) _
     have z25 := zero25
     clear hn2 hn3 HC HB hfit hDr hcl hca hmy hsome hf hy hyd
     generalize nought = N at *
     go_wp2_with (first | refine wpList_lookM1 rfl (.tmp 48) (.tmp 49) 92 rfl 64 Tryz.underlying3 keyed3 Tryz.underlying92 rfl hHeld (z25 _) y hW rfl _ hhv ?_ | refine wpList_build85 rfl (.tmp 44) (.tmp 50) rfl y f rfl rfl ?_ | refine wpList_store85 rfl (.tmp 52) (.tmp 51) rfl G (k * 1025) (y, f) rfl rfl cu hn1 hfit2 ?_)
     exact ⟨⟨k + 1, _, by omega, by go_num, HC2.out, HB3.out⟩, by simp [intOf]; omega⟩
    ·obtain rfl : k = m := by omega
     have hfin : (wr.heap[G]? = some (.cells (celCells (withHeld s ys)).toArray 76)) := by
      obtain ⟨hn1, hn2, hn3⟩ := HC.out
      have hl : (withHeld s ys).length = k := by unfold withHeld; rw [List.length_map]; omega
      rw [← hn2, ← Array.length_toList, List.take_length, ← hl, List.take_length] at hn3
      rw [hn1, ← hn3, Array.toArray_toList]
     have hDr := HD2.out.kept (w' := wr) fun k hk => HB.out.block k (by have := HD2.out.lt k hk; omega)
     have c1 := hDr.c1
     have hRr : wr.heap[B]? = some (.cells #[.int .i64 0, .slice none 0 0] 24) := (HB.out.block B hBlt).trans HR2.out
     have cB0 : wr.cell? ⟨B, 0, none⟩ = some (.int .i64 0) := Joins.cell_of_block hRr 0
     have cB1 : wr.cell? ⟨B, 1, none⟩ = some (.slice none 0 0) := Joins.cell_of_block hRr 1
     have fB0 : wr.frozen? ⟨B, 0, none⟩ = false := Joins.unfrozen_of_block hRr 0
     have fB1 : wr.frozen? ⟨B, 1, none⟩ = false := Joins.unfrozen_of_block hRr 1
     have hl : (withHeld s ys).length = k := by unfold withHeld; rw [List.length_map]; omega
     have HFin : Hid (wr.heap[G]? = some (.cells (celCells (withHeld s ys)).toArray 76)) := hfin
     have HRr : Hid (wr.heap[B]? = some (.cells #[.int .i64 0, .slice none 0 0] 24)) := hRr
     clear hfin hDr HC hRr
     go_wp2
     have hrow := Joins.block_setCell (Joins.block_setCell HRr.out (i := 0) (.int .i64 s.n)) (i := 1) (.slice (some ⟨G, 0, none⟩) k k)
     refine ret32 rfl B _ rfl hrow rfl rfl ⟨G, withHeld s ys, by rw [hl]; rfl, HI.out, ?_, by omega, ?_⟩
     ·rw [Below.heap_setCell _ _ _ _ (by show G ≠ B; omega), Below.heap_setCell _ _ _ _ (by show G ≠ B; omega)]
      exact HFin.out
     ·exact ((HB2.out.trans (HB.out.mono (by omega))).setCell (Nat.le_refl _) _).setCell (Nat.le_refl _) _
  ·intro x c kl yd yp w1 cnt1 hkey hlk hval hat hrg1 hlt1 hg1 hs1 hen
   obtain ⟨x', ex, rfl, hwx⟩ := Maps.keyOf_int_inv Tryz.underlying3 hkey
   obtain rfl : x = x' := by injection ex
   obtain ⟨hC1, hsome⟩ := HC.out.step HV.out hlk hat
   have hlen : zs.length + 1 ≤ 1048576 := by
    have q := nodup_le 1048576 (zs ++ [x]) hC1.nodup fun y hy => by
     have q1 := ((hC1.mem y).1 hy).1
     cases hm : heldV s y with
     | none => rw [hm] at q1; cases q1
     | some v => exact (HV.out.some y v hm).1
    simpa using q
   have HC1 : Hid (Col (heldV s) (fun z => left z && !z.sameKey (.int .i64 x)) (zs ++ [x])) := hC1
   have hgl := (HO.out.lt g rfl).1
   have hown1 := HO.out.kept hg1 (.inr (by simp only [Value.ownBlock]; exact fun q => hgne (by injection q)))
   have hR1 : w1.heap[B]? = some (.cells #[.int .i64 0, .slice none 0 0] 24) := (hg1.block B (Array.getElem?_eq_some_iff.1 HR.out).1 (fun q => by injection q with q; omega)).trans HR.out
   have hB1 : Below B w w1 := HB.out.grown hg1 (by rw [← hBB]; exact HB.out.size |> fun q => by rw [← hBB] at *; exact q) (fun j hj => by cases hj; omega)
   have hBs : B ≤ wr.heap.size := by have := HB.out.size; omega
   have hBs1 : B + 2 < w1.heap.size := hrg1.lt
   clear hs1 hC1 HC HO HR HB hkey hval hat hsome
   have HRG : Hid (w1.ranges Tryz.prog 3 valElem L.hb (B + 2) top D (fun z => left z && !z.sameKey (.int .i64 x)) cnt1) := hrg1
   have HLE : Hid (wr.rangeLeft L.hb (B + 2) = cnt) := hrg.left_eq
   clear hrg1 hrg hg1
   go_wp2_with (at_builtin; refine wpList_append_own_at _ rfl (.tmp 26) (.tmp 28) 90 rfl (B + 1) 3 i0 (.int .i64 0) 1 8 Tryz.underlying90 hi0 hz0 hz1 hz2 rfl (by decide) (.slice (some ⟨g, 0, none⟩) zs.length cap) zs.length _ rfl (hown1.alloc _) ⟨w1.heap.size, 0, none⟩ 1 1 [.int .i64 x] rfl rfl (cell_one_new _ _ _) (ints_oneCell .i64 [x]) (by unfold maxLen; omega) (by omega) (by simp; omega) ?_; intro v' w2 hown2 hg2 hnil hloc)
   obtain ⟨g', cap', rfl⟩ : ∃ g' cap', v' = .slice (some ⟨g', 0, none⟩) (zs.length + 1) cap' := by
    rcases hown2.2 with ⟨_, h⟩ | ⟨g', cap', _, h, _⟩
    ·omega
    ·exact ⟨g', cap', h⟩
   have hg2' : (w1.alloc (.cells #[.int .i64 x] 3)).grownBy w2 (some g) := hg2
   have hrg2 := (HRG.out.alloc (.cells #[.int .i64 x] 3)).kept hg2' (fun q => by injection q with q; omega) (fun q => by injection q with q; omega)
   have hg'ne : g' ≠ B + 2 := by
    rcases hloc with q | q
    ·have q' : some g' = some g := q
     injection q' with q'
     omega
    ·have q' : some g' = some (w1.alloc (.cells #[.int .i64 x] 3)).heap.size := q
     injection q' with q'
     simp at q'
     omega
   have hl1 : (zs ++ [x]).length = zs.length + 1 := by simp
   refine ⟨⟨_, cnt1, zs ++ [x], g', cap', hrg2, HC1.out, by rw [hl1], ?_, hg'ne, ?_, ?_⟩, ?_⟩
   ·rw [hl1, List.map_append]
    exact hown2
   ·exact (hg2'.block B (by simp; omega) (fun q => by injection q with q; omega)).trans (heap_kept hR1 (below_new _ _))
   ·exact ((hB1.alloc (by have := hB1.size; omega) _).grown hg2' (by simp; omega) (fun j hj => by cases hj; omega))
   ·rw [hrg2.left_eq, HLE.out]
    exact hlt1
end Go.Proofs.YtichojdcoegboaaGreatW
namespace Go.Proofs.YtichojdcoegboaaGreatW
open Go.RowKit
section
variable {α : Type} (row : α → List Value) (n : Nat)
theorem fm_get (hr : ∀ x, (row x).length = n) : ∀ (l : List α) (i j : Nat) (r : α), l[i]? = some r → j < n → (l.flatMap row)[i * n + j]? = (row r)[j]?
 | [], i, j, r, h, _ => by simp at h
 | x :: t, 0, j, r, h, hj => by
  have h' : x = r := by simpa using h
  subst h'
  rw [List.flatMap_cons, Nat.zero_mul, Nat.zero_add, List.getElem?_append_left (by rw [hr]; exact hj)]
 | x :: t, i + 1, j, r, h, hj => by
  have h' : t[i]? = some r := by simpa using h
  rw [List.flatMap_cons, List.getElem?_append_right (by rw [hr, Nat.add_mul]; omega), hr, show (i + 1) * n + j - n = i * n + j by rw [Nat.add_mul]; omega]
  exact fm_get hr t i j r h' hj
end
theorem cel_at {w : World} {base g n cap : Nat} {l : List Cel} (h : w.ownsRow base 76 1025 (.slice (some ⟨g, 0, none⟩) n cap) n (celCells l)) {k K : Nat} {c : Cel} (hK : K = k * 1025) (hk : l[k]? = some c) :
  w.cell? ⟨g, K, none⟩ = some (.int .i64 c.1) ∧ BlkAt w g (K + 1) c.2 := by
 have hc := h.cells (g := g) rfl
 have key : ∀ j, j < 1025 → ∀ v, (celRow c)[j]? = some v → w.cell? ⟨g, K + j, none⟩ = some v := fun j hj v hv => by
  have q0 := (fm_get celRow 1025 celRow_len l k j c hk hj).trans hv
  rw [← hK] at q0
  have q := hc (K + j) v q0
  rwa [Go.WideShapes.add_plain, Nat.zero_add] at q
 clear hK hk hc h
 refine ⟨key 0 (by omega) _ rfl, fun j v hv => ?_⟩
 have hj : j < 1024 := by have := (List.getElem?_eq_some_iff.1 hv).1; rwa [blk_list_len] at this
 rw [Nat.add_assoc, Nat.add_comm 1 j]
 refine key (j + 1) (by omega) v ?_
 rw [show (celRow c)[j + 1]? = (blk c.2).toList[j]? by simp only [celRow, List.getElem?_cons_succ]]
 exact hv
variable {w : World} {L : Loc} {s : St}
theorem made_of (h : DiskAt w L s) : Calls Tryz.prog 25 #[.pointer (some ⟨L.d, 0, none⟩)] w fun e w' => e = .returned (.int .i64 s.made) ∧ w' = w := by
 have c8 := h.c8
 have h0 := h.c0
 clear h
 go_enter Tryz.func25, Tryz.ntmps25
 go_wp2_with (first | (go_at_call 65; refine (none_no h0).mono ?_; rintro e W ⟨rfl, rfl⟩))
 go_ret
 exact ⟨rfl, rfl⟩
end Go.Proofs.YtichojdcoegboaaGreatW
namespace Go.Proofs.YtichojdcoegboaaGreatW
open Go.RowKit
variable {w : World} {L : Loc} {s : St}
theorem fuse_of (h : DiskAt w L s) (n : Int) (hn : n ≤ 9223372036854775807) : Calls Tryz.prog 40 #[.pointer (some ⟨L.d, 0, none⟩), .int .i64 n] w fun e w' => e = .returned (.tuple #[]) ∧ DiskAt w' L (fuseV s n) ∧ Goes w w' L L := by
 have c7 := h.c7
 have f6 := h.free 6
 have c6 := h.c6
 have h0 := h.c0
 unfold fuseV
 cases hs : s.stopped
 ·rw [hs] at c7
  have hA : Hid (DiskAt (w.setCell ⟨L.d, 6, none⟩ (.int .i64 (max n (-1)))) L { s with fuse := max n (-1) }) :=
   h.put (s' := { s with fuse := max n (-1) }) 6 _ rfl rfl rfl rfl ⟨h.ok.n, h.ok.held, h.ok.wait, ⟨by show -1 ≤ max n (-1); omega, by show max n (-1) ≤ _; omega⟩, h.ok.made, h.ok.reads, h.ok.claims⟩
  rw [hs] at hA
  clear h
  by_cases hn1 : -1 ≤ n
  ·have e : max n (-1) = n := by omega
   rw [e] at hA ⊢
   go_enter Tryz.func40, Tryz.ntmps40
   go_wp2_with (first | (go_at_call 65; refine (none_no h0).mono ?_; rintro e W ⟨rfl, rfl⟩))
   go_end0
   exact ⟨rfl, hA.out, Goes.put _ _ _ _⟩
  ·have e : max n (-1) = -1 := by omega
   rw [e] at hA ⊢
   go_enter Tryz.func40, Tryz.ntmps40
   go_wp2_with (first | (go_at_call 65; refine (none_no h0).mono ?_; rintro e W ⟨rfl, rfl⟩))
   go_end0
   exact ⟨rfl, hA.out, Goes.put _ _ _ _⟩
 ·rw [hs] at c7
  have hA : Hid (DiskAt w L s) := h
  clear h
  go_enter Tryz.func40, Tryz.ntmps40
  go_wp2_with (first | (go_at_call 65; refine (none_no h0).mono ?_; rintro e W ⟨rfl, rfl⟩))
  refine bodyPost_ret (results_none rfl _ _ _) rfl ?_
  exact ⟨rfl, hA.out, Goes.refl _ _⟩
end Go.Proofs.YtichojdcoegboaaGreatW
namespace Go.Proofs.YtichojdcoegboaaGreatW
open Go.RowKit
structure SitsL (w W : World) (L : Loc) (s : St) (ks : List (Nat × Obj)) : Prop where
 disk : DiskAt W L s
 new : L.from w.heap.size
 below : Below w.heap.size w W
 keep : ∀ p ∈ ks, W.heap[p.1]? = some p.2 ∧ ¬ L.has p.1
def Sits (w W : World) (d : Nat) (s : St) (ks : List (Nat × Obj)) : Prop := ∃ L : Loc, L.d = d ∧ SitsL w W L s ks
theorem SitsL.goes {w W W' : World} {L L' : Loc} {s s' : St} {ks : List (Nat × Obj)} (h : SitsL w W L s ks) (hD : DiskAt W' L' s') (hG : Goes W W' L L') : SitsL w W' L' s' ks := by
 refine ⟨hD, fun k hk => ?_, h.below.trans (hG.fr.below h.new h.below.size), fun p hp => ?_⟩
 ·rcases hG.own k hk with q | q
  ·exact h.new k q
  ·have := h.below.size
   omega
 ·obtain ⟨h1, h2⟩ := h.keep p hp
  have hlt := (Array.getElem?_eq_some_iff.1 h1).1
  refine ⟨(hG.fr.block p.1 hlt h2).trans h1, fun q => ?_⟩
  rcases hG.own p.1 q with q | q
  ·exact h2 q
  ·omega
variable {w W : World} {d : Nat} {s : St} {ks : List (Nat × Obj)}
theorem Sits.later {W' : World} (h : Sits w W d s ks) (hb : Below W.heap.size W W') : Sits w W' d s ks := by
 obtain ⟨L, hd, h⟩ := h
 exact ⟨L, hd, h.goes (h.disk.later hb) (Goes.ofBelow L hb)⟩
theorem Sits.add (h : Sits w W d s ks) (o : Obj) : Sits w (W.alloc o) d s ((W.heap.size, o) :: ks) := by
 obtain ⟨L, hd, h⟩ := h
 have h2 := h.goes (h.disk.later (below_new W o)) (Goes.ofBelow L (below_new W o))
 refine ⟨L, hd, h2.disk, h2.new, h2.below, fun p hp => ?_⟩
 rcases List.mem_cons.1 hp with rfl | hp
 ·exact ⟨heap_alloc_new W o, fun q => by have := h.disk.lt _ q; simp only at this; omega⟩
 ·exact h2.keep p hp
theorem Sits.blk (h : Sits w W d s ks) {g : Nat} {o : Obj} (hm : (g, o) ∈ ks) : W.heap[g]? = some o := by
 obtain ⟨L, hd, h⟩ := h
 exact (h.keep _ hm).1
theorem Sits.ok (h : Sits w W d s ks) : Ok s := by
 obtain ⟨L, hd, h⟩ := h
 exact h.disk.ok
theorem Sits.drop (h : Sits w W d s ks) {ks' : List (Nat × Obj)} (hs : ∀ p ∈ ks', p ∈ ks) : Sits w W d s ks' := by
 obtain ⟨L, hd, h⟩ := h
 exact ⟨L, hd, h.disk, h.new, h.below, fun p hp => h.keep p (hs p hp)⟩
theorem sits_new {n : Int} (hn : bndB n = true) (hB : Below w.heap.size w W) (hk : ∀ p ∈ ks, W.heap[p.1]? = some p.2) :
  Calls Tryz.prog 16 #[.int .i64 n] W fun e W' => ∃ d, e = .returned (.tuple #[.pointer (some ⟨d, 0, none⟩), .int .i64 0]) ∧ Sits w W' d (newV n) ks := by
 refine (new_ok hn W).mono ?_
 rintro e W' ⟨L, rfl, hD, hL, hb⟩
 refine ⟨L.d, rfl, L, rfl, hD, fun k hk => by have := hL k hk; have := hB.size; omega, below_next hB hb, fun p hp => ?_⟩
 have h1 := hk p hp
 have hlt := (Array.getElem?_eq_some_iff.1 h1).1
 exact ⟨heap_kept h1 hb, fun q => by have := hL _ q; omega⟩
theorem sits_fuse (h : Sits w W d s ks) (n : Int) (hn : n ≤ 9223372036854775807) : Calls Tryz.prog 40 #[.pointer (some ⟨d, 0, none⟩), .int .i64 n] W fun e W' => e = .returned (.tuple #[]) ∧ Sits w W' d (fuseV s n) ks := by
 obtain ⟨L, rfl, hS⟩ := h
 exact (fuse_of hS.disk n hn).mono fun e W' ⟨h1, h2, h3⟩ => ⟨h1, L, rfl, hS.goes h2 h3⟩
theorem sits_read (h : Sits w W d s ks) (hr : Room s) (k : Int) :
  Calls Tryz.prog 28 #[.pointer (some ⟨d, 0, none⟩), .int .i64 k] W fun e W' => e = .returned (.tuple #[.agg (blk (readB s k)), .int .i64 (refV s k)]) ∧ Sits w W' d (readV s k) ks := by
 obtain ⟨L, rfl, hS⟩ := h
 unfold readB readV
 by_cases hb : refV s k = 0
 ·rw [if_pos hb, if_pos hb, hb]
  exact (read_ok hS.disk hr hb).mono fun e W' ⟨h1, h2, h3⟩ => ⟨h1, L, rfl, hS.goes h2 h3⟩
 ·rw [if_neg hb, if_neg hb]
  exact (read_bad hS.disk hb).mono fun e W' ⟨h1, h2⟩ => ⟨h1, L, rfl, hS.goes (hS.disk.later h2) (Goes.ofBelow L h2)⟩
def writeV (s : St) (k : Int) (f : Nat → Int) : St := if refV s k = 0 then (if lets s then writeS s k f else letV s) else s
def writeE (s : St) (k : Int) : Int := if refV s k = 0 then (if lets s then 0 else 3) else refV s k
theorem sits_write (h : Sits w W d s ks) (hr : Room s) (k : Int) {f : Nat → Int} (hf : Can f) :
  Calls Tryz.prog 110 #[.pointer (some ⟨d, 0, none⟩), .int .i64 k, .agg (blk f)] W fun e W' => e = .returned (.int .i64 (writeE s k)) ∧ Sits w W' d (writeV s k f) ks := by
 obtain ⟨L, rfl, hS⟩ := h
 unfold writeE writeV
 by_cases hb : refV s k = 0
 ·rw [if_pos hb, if_pos hb]
  cases hl : lets s
  ·exact (write_dead hS.disk hr hb hl f).mono fun e W' ⟨h1, h2, h3⟩ => ⟨h1, L, rfl, hS.goes h2 h3⟩
  ·exact (write_ok hS.disk hr hb hl hf).mono fun e W' ⟨h1, L', h2, h3⟩ => ⟨h1, L', h3.d, hS.goes h2 h3⟩
 ·rw [if_neg hb, if_neg hb]
  exact (write_bad hS.disk hb f).mono fun e W' ⟨h1, h2⟩ => ⟨h1, L, rfl, hS.goes (hS.disk.later h2) (Goes.ofBelow L h2)⟩
def barV (s : St) : St := if s.stopped then s else (if lets s then barS s else letV s)
def barE (s : St) : Int := if s.stopped then 3 else (if lets s then 0 else 3)
theorem sits_barrier (h : Sits w W d s ks) (hr : Room s) :
  Calls Tryz.prog 92 #[.pointer (some ⟨d, 0, none⟩)] W fun e W' => e = .returned (.int .i64 (barE s)) ∧ Sits w W' d (barV s) ks := by
 obtain ⟨L, rfl, hS⟩ := h
 unfold barE barV
 cases hs : s.stopped
 ·cases hl : lets s
  ·exact (barrier_dead hS.disk hr hs hl).mono fun e W' ⟨h1, h2, h3⟩ => ⟨h1, L, rfl, hS.goes h2 h3⟩
  ·exact (barrier_ok hS.disk hr hs hl).mono fun e W' ⟨h1, L', h2, h3⟩ => ⟨h1, L', h3.d, hS.goes h2 h3⟩
 ·exact (barrier_stopped hS.disk hs).mono fun e W' ⟨h1, h2⟩ => ⟨h1, by rw [h2]; exact ⟨L, rfl, hS⟩⟩
theorem sits_crash (h : Sits w W d s ks) {kv : Value} {kl : List Bool} (hkv : BoolsAt W kv kl) (hwl : s.wait.length < 68719476736) (hkl : kl.length < 9223372036854775807) :
  Calls Tryz.prog 43 #[.pointer (some ⟨d, 0, none⟩), kv] W fun e W' => e = .returned (.int .i64 0) ∧ Sits w W' d (crashS s kl) ks := by
 obtain ⟨L, rfl, hS⟩ := h
 exact (crash_of hS.disk hkv hwl hkl).mono fun e W' ⟨h1, L', h2, h3⟩ => ⟨h1, L', h3.d, hS.goes h2 h3⟩
theorem IsImage.one {s : St} {l m : List Cel} (h : IsImage s l) (hr : Rise (-1) m) (hs : Sound m) (ha : ∀ k, atL m k = (s.held k).getD nought) : l = m := rise_ext h.rise hr h.sound hs fun k => (h.at_ k).trans (ha k).symm
end Go.Proofs.YtichojdcoegboaaGreatW
namespace Go.Proofs.YtichojdcoegboaaGreatW
open Go.RowKit
section
variable {ops : Array Oper} {rest : List Oper} {o : Oper} {a : Act} {w : World} {Q : Exit → Act → World → Prop}
theorem wpList_build58w (hw : Region.wanted o (yielded ops a.tmps) = true) (ho : o.op = .build 64 #[]) {N : Nat → Int}
  (hb : ∀ u, (Instr.build 64 #[]).run Tryz.prog u = .ok (.agg (blk N)) u) (h : wpList Tryz.prog ops Q rest (a.put o.dst (.agg (blk N))) w) : wpList Tryz.prog ops Q (o :: rest) a w :=
 BigFrame.wpList_want hw fun _ hK => by
  have e : (execOp a.eval o).run Tryz.prog w = .ok (.value (.agg (blk N))) w := by
   unfold execOp
   simp only [ho, Array.map_empty, Sem.run_bind]
   simp only [hb, Result.andThen_ok, Sem.run_pure]
  unfold Oper.wp
  rw [e]
  exact hK _ _ h
theorem eq58 (f g : Nat → Int) (b : Bool) (hb : sameB f g = b) (u : World) : (binOp .eql 64 (.agg (blk f)) (.agg (blk g))).run Tryz.prog u = .ok (.bool b) u := by
 have h := eq25 f g u
 rw [hb] at h
 generalize blk f = F at *
 generalize blk g = G at *
 simp only [binOp, Op.equal, Op.maxDepth, Sem.run_bind, h, Result.andThen_ok, Sem.run_pure]
theorem eqg58 (x y : Operand) (F G : Array Value) (u : World) : (eqGuard .eql 64 x y (.agg F) (.agg G)).run Tryz.prog u = .ok () u := by
 unfold eqGuard
 simp
theorem wpList_eq58 (hw : Region.wanted o (yielded ops a.tmps) = true) (x y : Operand) (ho : o.op = .binOp .eql 64 x y 64) (f g : Nat → Int) (b : Bool) (hx : a.eval x = .agg (blk f)) (hy : a.eval y = .agg (blk g)) (hb : sameB f g = b)
  (h : wpList Tryz.prog ops Q rest (a.put o.dst (.bool b)) w) : wpList Tryz.prog ops Q (o :: rest) a w :=
 BigFrame.wpList_want hw fun _ hK => by
  have e := eq58 f g b hb w
  unfold Oper.wp execOp
  simp only [ho, hx, hy, Sem.run_bind, eqg58, e, Result.andThen_ok, Sem.run_pure]
  exact hK _ _ h
end
end Go.Proofs.YtichojdcoegboaaGreatW
