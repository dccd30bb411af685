/- Several texts joined, each with its own remark; no condition. -/
import Derived.Test.YtkcgbhagjkhcmaaGreatK16
/- The inodes that are not free, with their block numbers, as a list in memory. -/
namespace Go.Proofs.YtkcgbhagjkhcmaaGreat
open Go.RowKit Go.Maps
/-- An inode that is not free: its number, fields, twelve numbers, and its list of block numbers, which lies at p. -/
structure Fl where
  inum : Nat
  k : Int
  lk : Int
  s : Int
  b : Int
  d : Nat → Int
  p : Option Addr
  c : Nat
  sp : List (Int × Int)
def flCells (x : Fl) : List Value := [.int .i64 x.inum, .int .u16 x.k, .int .u16 x.lk, .int .u32 x.s, .int .u32 x.b, .int .u32 (x.d 0), .int .u32 (x.d 1), .int .u32 (x.d 2), .int .u32 (x.d 3), .int .u32 (x.d 4), .int .u32 (x.d 5), .int .u32 (x.d 6), .int .u32 (x.d 7), .int .u32 (x.d 8), .int .u32 (x.d 9), .int .u32 (x.d 10), .int .u32 (x.d 11), .slice x.p x.sp.length x.c]
theorem flCells_len (x : Fl) : (flCells x).length = 18 := rfl
theorem flCells_one (x : Fl) : ∀ u ∈ flCells x, u.oneCell' = true := fun u hu => by
  simp only [flCells, List.mem_cons, List.not_mem_nil, or_false] at hu
  rcases hu with rfl | rfl | rfl | rfl | rfl | rfl | rfl | rfl | rfl | rfl | rfl | rfl | rfl | rfl | rfl | rfl | rfl | rfl <;> rfl
theorem info155 : (Tryz.prog.info? 157).map (fun i => (i.zero, i.size, i.bytes)) = some (some (.agg #[.int .i64 0, .int .u16 0, .int .u16 0, .int .u32 0, .int .u32 0, .int .u32 0, .int .u32 0, .int .u32 0, .int .u32 0, .int .u32 0, .int .u32 0, .int .u32 0, .int .u32 0, .int .u32 0, .int .u32 0, .int .u32 0, .int .u32 0, .slice none 0 0]), 18, 96) := by kernel_rfl
theorem zero155 : ∀ w, (zeroValue 157).run Tryz.prog w = .ok (.agg #[.int .i64 0, .int .u16 0, .int .u16 0, .int .u32 0, .int .u32 0, .int .u32 0, .int .u32 0, .int .u32 0, .int .u32 0, .int .u32 0, .int .u32 0, .int .u32 0, .int .u32 0, .int .u32 0, .int .u32 0, .int .u32 0, .int .u32 0, .slice none 0 0]) w := (zero_of_info (show (Tryz.prog.info? 157).map (fun i => (i.zero, i.size)) = some (some (.agg #[.int .i64 0, .int .u16 0, .int .u16 0, .int .u32 0, .int .u32 0, .int .u32 0, .int .u32 0, .int .u32 0, .int .u32 0, .int .u32 0, .int .u32 0, .int .u32 0, .int .u32 0, .int .u32 0, .int .u32 0, .int .u32 0, .int .u32 0, .slice none 0 0]), 18) by kernel_rfl)).1
section
variable {o : Oper} {a : Act} {W : World}
theorem exec_build155 {x y z : Operand} {i : Nat} {k l s b : Int} {d : Nat → Int} {p : Option Addr} {c : Nat} {sp : List (Int × Int)} (ho : o.op = .build 157 #[(0, x), (1, y), (2, z)]) (hx : a.eval x = .int .i64 (i : Int)) (hy : a.eval y = .agg (node16 k l s b d)) (hz : a.eval z = .slice p sp.length c) :
    (execOp a.eval o).run Tryz.prog W = .ok (.value (.agg (flCells ⟨i, k, l, s, b, d, p, c, sp⟩).toArray)) W := by
  have z155 := zero155 W
  unfold node16 at hy
  generalize a.eval = E at *
  unfold execOp
  simp only [ho]
  simp [go_sem, hx, hy, hz, z155, flCells]
theorem exec_slice155 {y : Operand} {x : Fl} (ho : o.op = .buildSlice 146 1 #[(0, y)]) (hy : a.eval y = .agg (flCells x).toArray) : (execOp a.eval o).run Tryz.prog W = .ok (.value (.slice (some ⟨W.heap.size, 0, none⟩) 1 1)) (W.alloc (.cells (flCells x).toArray 157)) := by
  have z155 := zero155
  unfold flCells at *
  generalize a.eval = E at *
  unfold execOp
  simp only [ho]
  simp [go_sem, hy, z155]
theorem wpOrd_act {ops : Array Oper} {Q : Exit → Act → World → Prop} {S : World → Prop} {r : List (Bool × Oper)} {W' : World} {v : Value} (hw : Region.wanted o (yielded ops a.tmps) = true) (hr : (execOp a.eval o).run Tryz.prog W = .ok (.value v) W') (hS : S W') (h : wpOrd Tryz.prog ops Q S r (a.put o.dst v) W') : wpOrd Tryz.prog ops Q S ((false, o) :: r) a W := by
  simp only [wpOrd, hw, if_true]
  unfold Oper.wp
  rw [hr]
  exact ⟨hS, h⟩
end
/-- What it is, wherever its list lies. -/
structure FC where
  inum : Nat
  k : Int
  lk : Int
  s : Int
  b : Int
  d : Nat → Int
  sp : List (Int × Int)
def Fl.core (x : Fl) : FC := ⟨x.inum, x.k, x.lk, x.s, x.b, x.d, x.sp⟩
def flP (y : Lay) (l : List Cel) (i : Nat) : FC := ⟨i, numN (rawP y l i) 0 2, numN (rawP y l i) 2 2, numN (rawP y l i) 4 4, numN (rawP y l i) 8 4, decD (rawP y l i), spotsP y l (decD (rawP y l i))⟩
/-- The inodes 1 to k that are not free. -/
def filesK (y : Lay) (l : List Cel) (k : Nat) : List FC := (List.range k).filterMap fun i => if numN (rawP y l (i + 1)) 0 2 = 0 then none else some (flP y l (i + 1))
theorem filesK_zero {y : Lay} {l : List Cel} {k : Nat} (h : numN (rawP y l (k + 1)) 0 2 = 0) : filesK y l (k + 1) = filesK y l k := by unfold filesK; rw [List.range_succ, List.filterMap_append]; simp [h]
theorem filesK_some {y : Lay} {l : List Cel} {k : Nat} (h : ¬ numN (rawP y l (k + 1)) 0 2 = 0) : filesK y l (k + 1) = filesK y l k ++ [flP y l (k + 1)] := by unfold filesK; rw [List.range_succ, List.filterMap_append]; simp [h]
theorem filesK_len (y : Lay) (l : List Cel) (k : Nat) : (filesK y l k).length ≤ k := by
  have := List.length_filterMap_le (fun (i : Nat) => if numN (rawP y l (i + 1)) 0 2 = 0 then none else some (flP y l (i + 1))) (List.range k)
  rwa [List.length_range] at this
structure FilesAt (w : World) (B : Nat) (v : Value) (L : List Fl) : Prop where
  own : OwnG flCells 157 18 w B v L
  sp : ∀ x ∈ L, ∃ B', OwnS w B' (.slice x.p x.sp.length x.c) x.sp
theorem FilesAt.nil (w : World) (B : Nat) : FilesAt w B (.slice none 0 0) [] := ⟨OwnG.nil _ _, fun _ h => by cases h⟩
theorem FilesAt.later {w W : World} {B : Nat} {v : Value} {L : List Fl} (h : FilesAt w B v L) (hb : Below w.heap.size w W) : FilesAt W B v L := ⟨h.own.later hb, fun x hx => by obtain ⟨B', h'⟩ := h.sp x hx; exact ⟨B', h'.later hb⟩⟩
theorem FilesAt.push {w : World} {B : Nat} {v : Value} {L : List Fl} (h : FilesAt w B v L) (hB : B ≤ w.heap.size) (hn : L.length ≤ 10000000) (x : Fl) {B' : Nat} (hx : OwnS w B' (.slice x.p x.sp.length x.c) x.sp) (ty : TypeId) :
    ∃ v' w', (Builtin.append_ #[146, 146] ty #[v, .slice (some ⟨w.heap.size, 0, none⟩) 1 1]).run Tryz.prog (w.alloc (.cells (flCells x).toArray 157)) = .ok v' w' ∧ FilesAt w' B v' (L ++ [x]) ∧ Below B w w' ∧ Fr (fun b => v.ownBlock = some b) w w' := by
  obtain ⟨i0, hi0, hz0, hz1, hz2⟩ := info_parts info155
  obtain ⟨v', w', h1, h2, h3, h4⟩ := own_pushF flCells_len flCells_one Tryz.underlying146 hi0 hz0 hz1 hz2 rfl (by omega) (by omega) h.own hB hn x ty
  have key : ∀ {B'' : Nat} {q : Value} {sp : List (Int × Int)}, OwnS w B'' q sp → OwnS w' B'' q sp := fun {B'' q sp} hq => by
    refine own_frame hq h4 fun b hb hT => ?_
    exact rows_apart (by decide) h.own hT hq hb
  refine ⟨v', w', h1, ⟨h2, fun z hz => ?_⟩, h3, h4⟩
  rcases List.mem_append.1 hz with hz | hz
  · obtain ⟨B'', h'⟩ := h.sp z hz
    exact ⟨B'', key h'⟩
  · obtain rfl : z = x := by simpa using hz
    exact ⟨B', key hx⟩
end Go.Proofs.YtkcgbhagjkhcmaaGreat
/- Files: the walk. -/
namespace Go.Proofs.YtkcgbhagjkhcmaaGreat
open Go.RowKit Go.Maps
structure FiSt (w W : World) (v : Value) (l : List FC) : Prop where
  own : ∃ L : List Fl, FilesAt W w.heap.size v L ∧ L.map Fl.core = l
  bel : Below w.heap.size w W
theorem FiSt.call {w W W' : World} {v : Value} {l : List FC} (h : FiSt w W v l) (hb : Below W.heap.size W W') : FiSt w W' v l := by
  obtain ⟨⟨L, h1, h2⟩, h3⟩ := h
  exact ⟨⟨L, h1.later hb, h2⟩, below_next h3 hb⟩
theorem FiSt.push {w W : World} {v : Value} {l : List FC} (h : FiSt w W v l) (hn : l.length ≤ 10000000) (x : Fl) {B' : Nat} (hx : OwnS W B' (.slice x.p x.sp.length x.c) x.sp) (ty : TypeId) :
    ∃ v' w', (Builtin.append_ #[146, 146] ty #[v, .slice (some ⟨W.heap.size, 0, none⟩) 1 1]).run Tryz.prog (W.alloc (.cells (flCells x).toArray 157)) = .ok v' w' ∧ Hid (FiSt w w' v' (l ++ [x.core])) ∧ ∀ (q : Nat) (Z : Array Value) (t : TypeId), 157 ≠ t → W.heap[q]? = some (.cells Z t) → w'.heap[q]? = some (.cells Z t) := by
  obtain ⟨⟨L, h1, h2⟩, h3⟩ := h
  obtain ⟨v', w', q1, q2, q3, q4⟩ := h1.push h3.size (by rw [← h2, List.length_map] at hn; exact hn) x hx ty
  exact ⟨v', w', q1, ⟨⟨L ++ [x], q2, by rw [List.map_append, h2]; rfl⟩, h3.trans q3⟩, fun q Z t hne hq => (q4.block q (Array.getElem?_eq_some_iff.1 hq).1 (own_ne h1.own hq hne)).trans hq⟩
theorem decD_bound {f : Nat → Int} (hf : Byt f) (i : Nat) : 0 ≤ decD f i ∧ decD f i < 4294967296 := by
  have := numN_bd f hf 4 (12 + 4 * i)
  unfold decD
  omega
set_option maxRecDepth 20000 in
set_option maxHeartbeats 4000000 in
theorem files29_any {w : World} {g : Nat} {n : Int} {l : List Cel} {y : Lay} (h : Aud w g n l y) {nI : Nat} (hi : y.i = nI) (hi1 : nI ≤ 1000000) (hy : 0 ≤ y.nodeAt ∧ y.nodeAt ≤ 1000000000) :
    Calls Tryz.prog 78 #[.pointer (some ⟨g, 0, none⟩)] w fun e w' => ∃ v, e = .returned v ∧ FiSt w w' v (filesK y l nI) := by
  have z3 := zero27
  have HA : Hid (Aud w g n l y) := h
  have HC : Hid (∀ W, Aud W g n l y → W.cell? ⟨g, 4, none⟩ = some (.int .i64 nI)) := fun W hW => by
    obtain ⟨⟨p, cap, q, c, hr, _⟩, _, _⟩ := hW
    have c4 := Joins.cell_of_block hr 4
    unfold dkRow at c4
    rwa [show y.i = nI from hi] at c4
  clear h hi
  go_enter Tryz.func78, Tryz.ntmps78
  go_wp2
  go_loopw [3, 4, 5] (fun s3 s4 _ wx => ∃ k : Nat, k ≤ nI ∧ s4 = .int .i64 ((k + 1 : Nat) : Int) ∧ Hid (FiSt w wx s3 (filesK y l k))) (fun _ s4 _ _ => nI + 1 - (intOf s4).toNat)
  case atStart => exact ⟨0, by omega, rfl, ⟨[], FilesAt.nil _ _, rfl⟩, Below.refl _ _⟩
  case round =>
    obtain ⟨k, hk, rfl, HF⟩ := hrel
    have hA := HA.out.later HF.out.bel
    have c4 := HC.out _ hA
    by_cases hk2 : ((k + 1 : Nat) : Int) ≤ (nI : Int)
    · have hnod := node29_any hA hy (k + 1) (by omega)
      have hby : Byt (rawP y l (k + 1)) := fun j => HA.out.blk _ _
      have hdb := decD_bound hby
      have HS : Hid (∀ W, Aud W g n l y → Calls Tryz.prog 124 #[.pointer (some ⟨g, 0, none⟩), .agg (decN (rawP y l (k + 1)))] W fun e w' => ∃ v, e = .returned v ∧ OwnS w' W.heap.size v (spotsP y l (decD (rawP y l (k + 1)))) ∧ Below W.heap.size W w') := fun W hW => spots29_any hW _ _ _ _ _ hdb
      have HZ : Hid (numN (rawP y l (k + 1)) 0 2 = 0 → filesK y l (k + 1) = filesK y l k) := filesK_zero
      have HN : Hid (¬ numN (rawP y l (k + 1)) 0 2 = 0 → filesK y l (k + 1) = filesK y l k ++ [flP y l (k + 1)]) := filesK_some
      have hle := filesK_len y l k
      unfold flP at HN
      unfold nodP at hnod
      unfold decN at HS hnod
      generalize spotsP y l (decD (rawP y l (k + 1))) = sps at *
      generalize numN (rawP y l (k + 1)) 0 2 = x0 at *
      generalize numN (rawP y l (k + 1)) 2 2 = x1 at *
      generalize numN (rawP y l (k + 1)) 4 4 = x2 at *
      generalize numN (rawP y l (k + 1)) 8 4 = x3 at *
      generalize decD (rawP y l (k + 1)) = dd at *
      clear hby hdb
      have ek1 : (((k + 1 : Nat) : Int)) = (k : Int) + 1 := by omega
      have HL : Hid (∃ LL, LL = filesK y l (k + 1)) := ⟨_, rfl⟩
      go_wp2_with (first | (go_at_call 123; fail))
      refine hnod.mono ?_
      rintro e W1 ⟨rfl, hb1⟩
      have HF1 : Hid (FiSt w (W1.alloc (.cells (node16 x0 x1 x2 x3 dd) 154)) u3 (filesK y l k)) := (HF.out.call hb1).call (below_new _ _)
      have hn1 : (W1.alloc (.cells (node16 x0 x1 x2 x3 dd) 154)).heap[W1.heap.size]? = some (.cells (node16 x0 x1 x2 x3 dd) 154) := heap_alloc_new _ _
      have ck := nod_k hn1
      clear hb1 hnod HF hA c4
      by_cases hz : x0 = 0
      · have HE := HZ.out hz
        subst hz
        have HE2 : Hid (filesK y l (k + 1) = filesK y l k) := HE
        clear HE
        go_wp2_with (first | (with_reducible refine isStoreR 154 ?_; refine wpList_stNew 154 rfl (.tmp 5) (.tmp 18) rfl W1.heap.size (node16 0 x1 x2 x3 dd) (node16 0 0 0 0 nought) 154 (nod_info _ _ _ _ _) (nod_two _ _ _ _ _ _ _ _ _ _) (node_one _ _ _ _ _) rfl rfl rfl ?_))
        exact ⟨⟨k + 1, by omega, by go_num, by have := HE2.out; rw [this]; exact HF1.out⟩, by simp [intOf]; omega⟩
      · have HE2 : Hid _ := HN.out hz
        have gz : (x0 == 0) = false := by simp [hz]
        have gzb : (x0 != 0) = true := by simp [hz]
        go_wp2_with (first | (with_reducible refine isStoreR 154 ?_; refine wpList_stNew 154 rfl (.tmp 5) (.tmp 18) rfl W1.heap.size (node16 x0 x1 x2 x3 dd) (node16 0 0 0 0 nought) 154 (nod_info _ _ _ _ _) (nod_two _ _ _ _ _ _ _ _ _ _) (node_one _ _ _ _ _) rfl rfl rfl ?_))
        generalize W1.alloc (.cells (node16 x0 x1 x2 x3 dd) 154) = X1 at *
        generalize W1.heap.size = gn at *
        refine wp_region_ord (S := fun u => u.heap[gn]? = some (.cells (node16 x0 x1 x2 x3 dd) 154)) [(0, true), (1, true), (3, true), (2, true), (4, true), (5, false), (6, true), (7, false), (8, false), (9, true)] (by kernel_rfl) rfl (by kernel_rfl) (fun d _ _ _ _ h => by cases d <;> exact h) hn1 ?_
        have HF2 : Hid (FiSt w X1.drew u3 (filesK y l k)) := ⟨by obtain ⟨⟨L, h1, h2⟩, _⟩ := HF1.out; exact ⟨L, h1.later (Below.refl _ _).drew, h2⟩, HF1.out.bel.drew⟩
        have hn2 : X1.drew.heap[gn]? = some (.cells (node16 x0 x1 x2 x3 dd) 154) := hn1
        have hsp := HS.out X1.drew (HA.out.later HF2.out.bel)
        clear HF1 hn1 ck HS
        generalize X1.drew = wd at *
        simp only [inOrd, List.getElem?_cons_zero, List.getElem?_cons_succ]
        refine wpOrd_yield (v := u3) rfl (fun u _ => exec_mv rfl rfl) ?_
        simp only [Act.put, List.setIfInBounds_toArray, List.set_cons_succ, List.set_cons_zero]
        refine wpOrd_yield (v := .int .i64 ((k + 1 : Nat) : Int)) rfl (fun u _ => exec_mv rfl rfl) ?_
        simp only [Act.put, List.setIfInBounds_toArray, List.set_cons_succ, List.set_cons_zero]
        refine wpOrd_yield (v := .pointer (some ⟨g, 0, none⟩)) rfl (fun u _ => exec_mv rfl rfl) ?_
        simp only [Act.put, List.setIfInBounds_toArray, List.set_cons_succ, List.set_cons_zero]
        refine wpOrd_yield (v := .agg (node16 x0 x1 x2 x3 dd)) rfl (fun u hu => run_ldR 154 Tryz.underlying154 rfl _ rfl gn rfl hu (nod_info _ _ _ _ _)) ?_
        simp only [Act.put, List.setIfInBounds_toArray, List.set_cons_succ, List.set_cons_zero]
        refine wpOrd_yield (v := .agg (node16 x0 x1 x2 x3 dd)) rfl (fun u hu => run_ldR 154 Tryz.underlying154 rfl _ rfl gn rfl hu (nod_info _ _ _ _ _)) ?_
        simp only [Act.put, List.setIfInBounds_toArray, List.set_cons_succ, List.set_cons_zero]
        refine wpOrd_call rfl 124 _ _ rfl Tryz.call124 [.pointer (some ⟨g, 0, none⟩), .agg (node16 x0 x1 x2 x3 dd)] rfl ?_
        refine hsp.mono ?_
        rintro e' W2 ⟨vs, rfl, hos, hb2⟩
        have HF3 : Hid (FiSt w W2 u3 (filesK y l k)) := HF2.out.call hb2
        have hn3 := heap_kept hn2 hb2
        obtain ⟨p, c, rfl, _⟩ := OwnG.lie pc2_len hos
        obtain ⟨v', W3, R1, HF4, hkp⟩ := HF3.out.push (by omega) ⟨k + 1, x0, x1, x2, x3, dd, p, c, sps⟩ hos 146
        refine ⟨_, rfl, hn3, ?_⟩
        simp only [Act.put, List.setIfInBounds_toArray, List.set_cons_succ, List.set_cons_zero]
        refine wpOrd_yield (v := .agg (flCells ⟨k + 1, x0, x1, x2, x3, dd, p, c, sps⟩).toArray) rfl (fun u _ => exec_build155 rfl rfl rfl rfl) ?_
        simp only [Act.put, List.setIfInBounds_toArray, List.set_cons_succ, List.set_cons_zero]
        refine wpOrd_act rfl (exec_slice155 rfl rfl) (heap_kept hn3 (below_new _ _)) ?_
        simp only [Act.put, List.setIfInBounds_toArray, List.set_cons_succ, List.set_cons_zero]
        refine wpOrd_act rfl (exec_push rfl rfl rfl R1) (hkp _ _ _ (by decide) hn3) ?_
        simp only [Act.put, List.setIfInBounds_toArray, List.set_cons_succ, List.set_cons_zero]
        refine wpOrd_yield (v := v') rfl (fun u _ => by simp [execOp, Act.eval]) ?_
        simp only [Act.put, List.setIfInBounds_toArray, List.set_cons_succ, List.set_cons_zero]
        refine wpOrd_nil ?_
        have HF5 : Hid (FiSt w W3 v' (filesK y l (k + 1))) := by rw [HE2.out]; exact HF4.out
        clear HF4 HF3 HF2 hos hb2 hn2 hn3 R1 hkp hsp HE2 HN HZ
        go_wp2
        exact ⟨⟨k + 1, by omega, by go_num, HF5.out⟩, by simp [intOf]; omega⟩
    · obtain rfl : k = nI := by omega
      clear hA
      go_wp2
      go_ret
      exact ⟨_, rfl, HF.out⟩
end Go.Proofs.YtkcgbhagjkhcmaaGreat
/- Sound block numbers: pointers finds nothing; what stands in the lists of files. -/
namespace Go.Proofs.YtkcgbhagjkhcmaaGreat
open Go.RowKit Go.Maps
/-- The list of files at v can be read: element by element, and each one's list of block numbers. -/
structure FlsAt (w : World) (p : Option Addr) (L : List Fl) : Prop where
  lie : LieG flCells 18 w p L
  sp : ∀ x ∈ L, LieG pc2 2 w x.p x.sp
  len : L.length ≤ 1000000
  len2 : ∀ x ∈ L, x.sp.length ≤ 1000000
theorem FlsAt.later {w W : World} {p : Option Addr} {L : List Fl} (h : FlsAt w p L) (hb : Below w.heap.size w W) : FlsAt W p L := ⟨h.lie.later hb, fun x hx => (h.sp x hx).later hb, h.len, h.len2⟩
theorem FilesAt.fls {w : World} {B : Nat} {v : Value} {L : List Fl} (h : FilesAt w B v L) (h1 : L.length ≤ 1000000) (h2 : ∀ x ∈ L, x.sp.length ≤ 1000000) : ∃ p c, v = .slice p L.length c ∧ FlsAt w p L := by
  obtain ⟨p, c, hv, hl⟩ := OwnG.lie flCells_len h.own
  refine ⟨p, c, hv, hl, fun x hx => ?_, h1, h2⟩
  obtain ⟨B', hs⟩ := h.sp x hx
  obtain ⟨q, c', he, hq⟩ := OwnG.lie pc2_len hs
  injection he with e1
  rw [e1]
  exact hq
/-- The element i: where the list lies, and its cells. -/
theorem FlsAt.at {w : World} {p : Option Addr} {L : List Fl} (h : FlsAt w p L) {i : Nat} (hi : i < L.length) : ∃ g x, p = some ⟨g, 0, none⟩ ∧ L[i]? = some x ∧ x ∈ L ∧ ∀ j u, (flCells x)[j]? = some u → w.cell? ⟨g, i * 18 + j, none⟩ = some u := by
  obtain ⟨g, h1, _, h3⟩ := h.lie (by omega)
  exact ⟨g, L[i], h1, List.getElem?_eq_getElem hi, List.getElem_mem hi, fun j u hu => h3 i L[i] (List.getElem?_eq_getElem hi) j u hu⟩
theorem FlsAt.spot {w : World} {p : Option Addr} {L : List Fl} (h : FlsAt w p L) {x : Fl} (hx : x ∈ L) {k : Nat} (hk : k < x.sp.length) : ∃ g s, x.p = some ⟨g, 0, none⟩ ∧ x.sp[k]? = some s ∧ s ∈ x.sp ∧ w.cell? ⟨g, k * 2, none⟩ = some (.int .i64 s.1) ∧ w.cell? ⟨g, k * 2 + 1, none⟩ = some (.int .i64 s.2) := by
  obtain ⟨g, h1, _, h3⟩ := h.sp x hx (by omega)
  exact ⟨g, x.sp[k], h1, List.getElem?_eq_getElem hk, List.getElem_mem hk, h3 k _ (List.getElem?_eq_getElem hk) 0 _ rfl, h3 k _ (List.getElem?_eq_getElem hk) 1 _ rfl⟩
set_option maxRecDepth 20000 in
set_option maxHeartbeats 4000000 in
theorem pointers29_ok {w : World} {g : Nat} {n : Int} {l : List Cel} {y : Lay} (h : Aud w g n l y) {p : Option Addr} {L : List Fl} (c : Nat) (hL : FlsAt w p L) (hok : ∀ x ∈ L, ∀ s ∈ x.sp, dataB y s.2 = true) :
    Calls Tryz.prog 115 #[.pointer (some ⟨g, 0, none⟩), .slice p L.length c] w fun e w' => e = .returned (.slice none 0 0) ∧ Below w.heap.size w w' := by
  have z := zero230
  have HA : Hid (Aud (w.alloc (.cells #[.int .u8 5, .slice none 0 0] 235)) g n l y) := h.later (below_new _ _)
  have HL : Hid (FlsAt (w.alloc (.cells #[.int .u8 5, .slice none 0 0] 235)) p L) := hL.later (below_new _ _)
  have hx := heap_alloc_new w (.cells #[.int .u8 5, .slice none 0 0] 235)
  have c1 := Joins.cell_of_block hx 1
  have HB : Hid (Below w.heap.size w (w.alloc (.cells #[.int .u8 5, .slice none 0 0] 235))) := below_new _ _
  have HO : Hid _ := hok
  have hlen := hL.len
  have HL2 : Hid _ := hL.len2
  clear h hL hok hx
  have HN : Hid (∃ N, N = L.length) := ⟨_, rfl⟩
  go_enter Tryz.func115, Tryz.ntmps115
  go_wp2
  generalize w.alloc (.cells #[.int .u8 5, .slice none 0 0] 235) = V at *
  go_loopw [6, 7, 8] (fun s6 _ _ wx => wx = V ∧ ∃ i : Nat, i ≤ L.length ∧ s6 = .int .i64 i) (fun s6 _ _ _ => L.length - (intOf s6).toNat)
  case atStart => exact ⟨rfl, 0, by omega, rfl⟩
  case round =>
    obtain ⟨rfl, i, hi, rfl⟩ := hrel
    by_cases hi2 : (i : Int) < (L.length : Int)
    · obtain ⟨gf, x, rfl, _, hxL, hcx⟩ := HL.out.at (i := i) (by omega)
      have c17 := hcx 17 _ rfl
      have hlx := HL2.out x hxL
      have HS : Hid (∀ k, k < x.sp.length → ∃ gs s, x.p = some ⟨gs, 0, none⟩ ∧ x.sp[k]? = some s ∧ s ∈ x.sp ∧ wr.cell? ⟨gs, k * 2, none⟩ = some (.int .i64 s.1) ∧ wr.cell? ⟨gs, k * 2 + 1, none⟩ = some (.int .i64 s.2)) := fun k hk => HL.out.spot hxL hk
      have HOx : Hid _ := HO.out x hxL
      clear hcx hxL
      generalize hN : L.length = N at *
      have hNi : i < N := by omega
      have hlt' : decide (i < N) = true := decide_eq_true hNi
      go_wp2
      go_loopw [7, 8] (fun s7 _ wx => wx = wr ∧ ∃ k : Nat, k ≤ x.sp.length ∧ s7 = .int .i64 k) (fun s7 _ _ => x.sp.length - (intOf s7).toNat)
      case atStart => exact ⟨rfl, 0, by omega, rfl⟩
      case round =>
        obtain ⟨rfl, k, hk, rfl⟩ := hrel
        by_cases hk2 : (k : Int) < (x.sp.length : Int)
        · obtain ⟨gs, s, hp, _, hs, cs0, cs1⟩ := HS.out k (by omega)
          have hdt := data29_any HA.out s.2
          rw [HOx.out s hs] at hdt
          rw [hp] at c17
          have hM : k < x.sp.length := by omega
          generalize x.sp.length = M at *
          go_wp2_with (first | (go_at_call 155; fail))
          refine hdt.mono ?_
          rintro e W1 ⟨rfl, rfl⟩
          clear hdt
          go_wp2
          exact ⟨⟨trivial, k + 1, by omega, by go_num⟩, by simp [intOf]; omega⟩
        · obtain rfl : k = x.sp.length := by omega
          clear HS HOx
          generalize x.sp.length = M at *
          go_wp2
          exact ⟨⟨trivial, i + 1, by omega, by go_num⟩, by simp [intOf]; omega⟩
    · go_wp2
      go_ret
      exact ⟨rfl, HB.out⟩
end Go.Proofs.YtkcgbhagjkhcmaaGreat
/- How often each block stands in the files' lists; none twice. -/
namespace Go.Proofs.YtkcgbhagjkhcmaaGreat
open Go.RowKit Go.Maps
theorem info3 : (Tryz.prog.info? 3).map (fun i => (i.zero, i.size, i.bytes)) = some (some (.int .i64 0), 1, 8) := by kernel_rfl
theorem made_ints (n : Nat) : madeCells #[Value.int .i64 0] n = rowN .i64 nought n :=
  rowN_ext (by simp [madeCells]) fun j hj => by simp [madeCells, hj, Nat.mod_one, nought]
theorem run_make45 (u : World) (n : Nat) (hn : n * 8 ≤ 281474976710656) :
    (Instr.makeSlice 51 (.int .i64 (n : Int)) (.int .i64 (n : Int))).run Tryz.prog u = .ok (.slice (some ⟨u.heap.size, 0, none⟩) n n) (u.alloc (.cells (rowN .i64 nought n) 3)) := by
  obtain ⟨i0, hi0, hz0, hz1, hz2⟩ := info_parts info3
  have h := run_make (P := Tryz.prog) u 51 3 i0 (.int .i64 0) Tryz.underlying51 hi0 hz0 .i64 .i64 n n (by omega) (Int.le_refl _) (by rw [hz2]; omega) (by omega)
  rw [Int.toNat_natCast, hz1] at h
  rw [h]
  simp [Value.cells, made_ints]
def cntS (l : List (Int × Int)) (b : Nat) : Int := ((l.filter fun s => s.2 == (b : Int)).length : Nat)
theorem cntS_snoc (l : List (Int × Int)) (s : Int × Int) (b : Nat) : cntS (l ++ [s]) b = cntS l b + if s.2 = (b : Int) then 1 else 0 := by
  unfold cntS
  rw [List.filter_append, List.length_append]
  by_cases h : s.2 = (b : Int)
  · simp [h]
  · simp [h]
theorem cntS_le (l : List (Int × Int)) (b : Nat) : 0 ≤ cntS l b ∧ cntS l b ≤ l.length := by
  unfold cntS
  have := List.length_filter_le (fun s : Int × Int => s.2 == (b : Int)) l
  omega
def allS (L : List Fl) : List (Int × Int) := L.flatMap Fl.sp
/-- The numbers counted so far. -/
structure CnSt (w W : World) (gr nB : Nat) (l : List (Int × Int)) : Prop where
  row : ∃ f, W.heap[gr]? = some (.cells (rowN .i64 f nB) 3) ∧ ∀ b, b < nB → f b = cntS l b
  far : w.heap.size ≤ gr
  bel : Below w.heap.size w W
theorem CnSt.step {w W : World} {gr nB : Nat} {l : List (Int × Int)} (h : CnSt w W gr nB l) (s : Int × Int) (b : Nat) (hs : s.2 = (b : Int)) (hb : b < nB) :
    W.cell? ⟨gr, b, none⟩ = some (.int .i64 (cntS l b)) ∧ W.frozen? ⟨gr, b, none⟩ = false ∧ CnSt w (W.setCell ⟨gr, b, none⟩ (.int .i64 (cntS l b + 1))) gr nB (l ++ [s]) := by
  obtain ⟨⟨f, h1, h2⟩, h3, h4⟩ := h
  have c := cell_rowN (i := b) h1 hb
  rw [h2 b hb] at c
  refine ⟨c, frozen_row h1 b, ⟨_, setCell_rowN h1 b _, fun b' hb' => ?_⟩, h3, h4.trans ((Fr.setCell W gr b _).below (fun j q => by omega) h4.size)⟩
  rw [cntS_snoc]
  unfold updN
  by_cases e : b' = b
  · subst e; rw [if_pos rfl, if_pos hs]
  · rw [if_neg e, if_neg (by omega), h2 b' hb']; omega
theorem take_snoc {α : Type} {l : List α} {k : Nat} {s : α} (h : l[k]? = some s) : l.take (k + 1) = l.take k ++ [s] := by
  rw [List.take_add_one, h]; rfl
theorem allS_snoc {L : List Fl} {i : Nat} {x : Fl} (h : L[i]? = some x) : allS (L.take (i + 1)) = allS (L.take i) ++ x.sp := by
  unfold allS
  rw [take_snoc h, List.flatMap_append]
  simp
theorem allS_le (L : List Fl) (i : Nat) : (allS (L.take i)).length ≤ (allS L).length := by
  have : allS L = allS (L.take i) ++ allS (L.drop i) := by unfold allS; rw [← List.flatMap_append, List.take_append_drop]
  rw [this, List.length_append]; omega
set_option maxRecDepth 20000 in
set_option maxHeartbeats 4000000 in
theorem owned29_any {w : World} {g : Nat} {n : Int} {l : List Cel} {y : Lay} (h : Aud w g n l y) {p : Option Addr} {L : List Fl} (c : Nat) (hL : FlsAt w p L) {nB : Nat} (hb : y.b = nB) (hb1 : nB ≤ 100000000) (hok : ∀ x ∈ L, ∀ s ∈ x.sp, 0 ≤ s.2 ∧ s.2 < nB) (htot : (allS L).length ≤ 100000000) :
    Calls Tryz.prog 156 #[.pointer (some ⟨g, 0, none⟩), .slice p L.length c] w fun e w' => ∃ gr, e = .returned (.slice (some ⟨gr, 0, none⟩) nB nB) ∧ CnSt w w' gr nB (allS L) := by
  have c2 : w.cell? ⟨g, 2, none⟩ = some (.int .i64 nB) := by
    obtain ⟨⟨p, cap, q, c, hr, _⟩, _, _⟩ := h
    have c2 := Joins.cell_of_block hr 2
    unfold dkRow at c2
    rwa [show y.b = nB from hb] at c2
  have hm := run_make45 w nB (by omega)
  have HL : Hid (FlsAt w p L) := hL
  have HO : Hid _ := hok
  have HT : Hid _ := htot
  have hlen := hL.len
  have HL2 : Hid _ := hL.len2
  have HC0 : Hid (CnSt w (w.alloc (.cells (rowN .i64 nought nB) 3)) w.heap.size nB []) := ⟨⟨nought, heap_alloc_new _ _, fun _ _ => rfl⟩, Nat.le_refl _, below_new _ _⟩
  clear h hL hok hb htot
  go_enter Tryz.func156, Tryz.ntmps156
  go_wp2
  clear hm c2
  generalize w.alloc (.cells (rowN .i64 nought nB) 3) = V at *
  generalize hgr : w.heap.size = gr at *
  clear hgr
  go_loopw [6, 7] (fun s6 _ wx => ∃ i : Nat, i ≤ L.length ∧ s6 = .int .i64 i ∧ Hid (CnSt w wx gr nB (allS (L.take i)))) (fun s6 _ _ => L.length - (intOf s6).toNat)
  case atStart => exact ⟨0, by omega, rfl, HC0.out⟩
  case round =>
    obtain ⟨i, hi, rfl, HC⟩ := hrel
    by_cases hi2 : (i : Int) < (L.length : Int)
    · obtain ⟨gf, x, rfl, hLi, hxL, _⟩ := (HL.out.later HC.out.bel).at (i := i) (by omega)
      have HS : Hid (∀ W, Below w.heap.size w W → W.cell? ⟨gf, i * 18 + 17, none⟩ = some (.slice x.p x.sp.length x.c) ∧ ∀ k, k < x.sp.length → ∃ gs s, x.p = some ⟨gs, 0, none⟩ ∧ x.sp[k]? = some s ∧ s ∈ x.sp ∧ W.cell? ⟨gs, k * 2, none⟩ = some (.int .i64 s.1) ∧ W.cell? ⟨gs, k * 2 + 1, none⟩ = some (.int .i64 s.2)) := fun W hW => by
        have hLW := HL.out.later hW
        obtain ⟨g', x', hp, hx', _, hcx⟩ := hLW.at (i := i) (by omega)
        injection hp with hp
        injection hp with hp
        subst hp
        rw [hLi] at hx'
        injection hx' with hx'
        subst hx'
        exact ⟨hcx 17 _ rfl, fun k hk => hLW.spot hxL hk⟩
      have hlx := HL2.out x hxL
      have HOx : Hid _ := HO.out x hxL
      have HAl : Hid (allS (L.take (i + 1)) = allS (L.take i) ++ x.sp) := allS_snoc hLi
      have hal : (allS (L.take i) ++ x.sp).length ≤ 100000000 := by
        rw [← HAl.out]
        exact Nat.le_trans (allS_le L (i + 1)) HT.out
      clear hxL hLi
      have c17 := (HS.out wr HC.out.bel).1
      generalize hA : allS (L.take i) = acc at *
      generalize hN : L.length = N at *
      have hNi : i < N := by omega
      go_wp2
      go_loopw [7] (fun s7 wx => ∃ k : Nat, k ≤ x.sp.length ∧ s7 = .int .i64 k ∧ Hid (CnSt w wx gr nB (acc ++ x.sp.take k))) (fun s7 _ => x.sp.length - (intOf s7).toNat)
      case atStart => exact ⟨0, by omega, rfl, by rw [List.take_zero, List.append_nil]; exact HC.out⟩
      case round =>
        obtain ⟨k, hk, rfl, HK⟩ := hrel
        obtain ⟨c17, hsp⟩ := HS.out wr HK.out.bel
        by_cases hk2 : (k : Int) < (x.sp.length : Int)
        · obtain ⟨gs, s, hp, hsk, hs, cs0, cs1⟩ := hsp k (by omega)
          have hbs := HOx.out s hs
          obtain ⟨b, hb⟩ : ∃ b : Nat, s.2 = (b : Int) := ⟨s.2.toNat, by omega⟩
          obtain ⟨cb, fb, hst⟩ := HK.out.step s b hb (by omega)
          have HK2 : Hid (CnSt w (wr.setCell ⟨gr, b, none⟩ (.int .i64 (cntS (acc ++ x.sp.take k) b + 1))) gr nB (acc ++ x.sp.take (k + 1))) := by
            show CnSt _ _ _ _ _
            rw [take_snoc hsk, ← List.append_assoc]
            exact hst
          have hcb := cntS_le (acc ++ x.sp.take k) b
          have hlc : (acc ++ x.sp.take k).length ≤ 100000000 := by rw [List.length_append, List.length_take]; rw [List.length_append] at hal; omega
          have hbN : b < nB := by omega
          rw [hb] at cs1
          rw [hp] at c17
          have ec : IntKind.i64.wrap (cntS (acc ++ x.sp.take k) b + 1) = cntS (acc ++ x.sp.take k) b + 1 := by rw [IntKind.wrap_i64]; omega
          have hM : k < x.sp.length := by omega
          clear hst hbs hs hsk HK hb hsp hal hlc
          generalize cntS (acc ++ x.sp.take k) b = q at *
          generalize x.sp.length = M at *
          go_wp2
          exact ⟨⟨k + 1, by omega, by go_num, HK2.out⟩, by simp [intOf]; omega⟩
        · obtain rfl : k = x.sp.length := by omega
          have HK2 : Hid (CnSt w wr gr nB (allS (L.take (i + 1)))) := by
            show CnSt _ _ _ _ _
            rw [HAl.out]
            have := HK.out
            rwa [List.take_length] at this
          clear HK hsp hal HS HOx
          generalize x.sp.length = M at *
          go_wp2
          exact ⟨⟨i + 1, by omega, by go_num, HK2.out⟩, by simp [intOf]; omega⟩
    · obtain rfl : i = L.length := by omega
      have HK2 : Hid (CnSt w wr gr nB (allS L)) := by
        have := HC.out
        rwa [List.take_length] at this
      clear HC
      go_wp2
      go_ret
      exact ⟨gr, rfl, HK2.out⟩
set_option maxRecDepth 20000 in
set_option maxHeartbeats 4000000 in
theorem twice29_ok {w : World} {g : Nat} {n : Int} {l : List Cel} {y : Lay} (h : Aud w g n l y) {p : Option Addr} {L : List Fl} (c : Nat) (hL : FlsAt w p L) {nB : Nat} (hb : y.b = nB) (hb1 : nB ≤ 100000000) (hok : ∀ x ∈ L, ∀ s ∈ x.sp, 0 ≤ s.2 ∧ s.2 < nB) (htot : (allS L).length ≤ 100000000) (hone : ∀ b, b < nB → cntS (allS L) b ≤ 1) :
    Calls Tryz.prog 116 #[.pointer (some ⟨g, 0, none⟩), .slice p L.length c] w fun e w' => e = .returned (.slice none 0 0) ∧ Below w.heap.size w w' := by
  have z := zero230
  have hbn := below_new w (.cells #[.int .u8 6, .slice none 0 0] 235)
  have hown := owned29_any (h.later hbn) c (hL.later hbn) hb hb1 hok htot
  have HX : Hid _ := heap_alloc_new w (.cells #[.int .u8 6, .slice none 0 0] 235)
  have HB : Hid _ := hbn
  have HO : Hid _ := hone
  clear h hL hok hb htot hone hbn
  generalize allS L = S at *
  go_enter Tryz.func116, Tryz.ntmps116
  go_wp2_with (first | (go_at_call 156; fail))
  generalize w.alloc (.cells #[.int .u8 6, .slice none 0 0] 235) = V at *
  refine hown.mono ?_
  rintro e W1 ⟨gr, rfl, hc⟩
  obtain ⟨⟨f, hr, hf⟩, _, hbel⟩ := hc
  have HR : Hid _ := hr
  have HF : Hid _ := hf
  have hx := heap_kept HX.out hbel
  have c1 := Joins.cell_of_block hx 1
  have HB2 : Hid (Below w.heap.size w W1) := below_next HB.out hbel
  clear hown hr hf hx hbel
  go_wp2
  go_loopw [7] (fun s7 wx => wx = W1 ∧ ∃ b : Nat, b ≤ nB ∧ s7 = .int .i64 b) (fun s7 _ => nB - (intOf s7).toNat)
  case atStart => exact ⟨rfl, 0, by omega, rfl⟩
  case round =>
    obtain ⟨rfl, b, hb, rfl⟩ := hrel
    by_cases hb2 : (b : Int) < (nB : Int)
    · have cb := cell_rowN (i := b) HR.out (by omega)
      rw [HF.out b (by omega)] at cb
      have h1 := HO.out b (by omega)
      have g1 : decide (1 < cntS S b) = false := decide_eq_false (by omega)
      have hbn : b < nB := by omega
      generalize cntS S b = q at *
      go_wp2
      exact ⟨⟨trivial, b + 1, by omega, by go_num⟩, by simp [intOf]; omega⟩
    · go_wp2
      go_ret
      exact ⟨rfl, HB2.out⟩
end Go.Proofs.YtkcgbhagjkhcmaaGreat
/- What an index is mapped to, blank index blocks, and files in which nothing is wrong. -/
namespace Go.Proofs.YtkcgbhagjkhcmaaGreat
open Go.RowKit Go.Maps
/-- The block of an index; 0: a hole. -/
def mapP : List (Int × Int) → Int → Int
  | [], _ => 0
  | s :: t, i => if s.1 = i then s.2 else mapP t i
theorem mapP_skip {l : List (Int × Int)} {i : Int} : ∀ {k : Nat}, (∀ j s, j < k → l[j]? = some s → ¬ s.1 = i) → mapP l i = mapP (l.drop k) i := by
  induction l with
  | nil => intro k _; simp
  | cons a t ih =>
    intro k h
    cases k with
    | zero => rfl
    | succ k =>
      have h0 := h 0 a (by omega) rfl
      rw [mapP, if_neg h0, List.drop_succ_cons]
      exact ih fun j s hj hs => h (j + 1) s (by omega) (by simpa using hs)
theorem mapP_hit {l : List (Int × Int)} {i : Int} {k : Nat} {s : Int × Int} (h : ∀ j s, j < k → l[j]? = some s → ¬ s.1 = i) (hk : l[k]? = some s) (hs : s.1 = i) : mapP l i = s.2 := by
  rw [mapP_skip h]
  have : l.drop k = s :: l.drop (k + 1) := by
    obtain ⟨hlt, he⟩ := List.getElem?_eq_some_iff.1 hk
    rw [← he]; exact List.drop_eq_getElem_cons hlt
  rw [this, mapP, if_pos hs]
set_option maxRecDepth 20000 in
set_option maxHeartbeats 1000000 in
theorem mapped29_any {w : World} {p : Option Addr} {sp : List (Int × Int)} (c : Nat) (h : LieG pc2 2 w p sp) (hl : sp.length ≤ 1000000) (i : Int) :
    Calls Tryz.prog 165 #[.slice p sp.length c, .int .i64 i] w fun e w' => e = .returned (.int .i64 (mapP sp i)) ∧ w' = w := by
  have HL : Hid _ := h
  clear h
  go_enter Tryz.func165, Tryz.ntmps165
  go_wp2
  go_loopw [5] (fun s5 wx => wx = w ∧ ∃ k : Nat, k ≤ sp.length ∧ s5 = .int .i64 k ∧ Hid (∀ j s, j < k → sp[j]? = some s → ¬ s.1 = i)) (fun s5 _ => sp.length - (intOf s5).toNat)
  case atStart => exact ⟨rfl, 0, by omega, rfl, fun j s hj => absurd hj (by omega)⟩
  case round =>
    obtain ⟨rfl, k, hk, rfl, HN⟩ := hrel
    by_cases hk2 : (k : Int) < (sp.length : Int)
    · obtain ⟨g, rfl, _, hc⟩ := HL.out (by omega)
      have hsk : sp[k]? = some sp[k] := List.getElem?_eq_getElem (by omega)
      have c0 : wr.cell? ⟨g, k * 2, none⟩ = some (.int .i64 (sp[k]).1) := hc k _ hsk 0 _ rfl
      have c1 : wr.cell? ⟨g, k * 2 + 1, none⟩ = some (.int .i64 (sp[k]).2) := hc k _ hsk 1 _ rfl
      have HM : Hid ((sp[k]).1 = i → mapP sp i = (sp[k]).2) := fun q => mapP_hit HN.out hsk q
      have HN2 : Hid (¬ (sp[k]).1 = i → ∀ j s, j < k + 1 → sp[j]? = some s → ¬ s.1 = i) := fun q j s hj hs => by
        by_cases e : j = k
        · subst e; rw [hsk] at hs; injection hs with hs; rw [← hs]; exact q
        · exact HN.out j s (by omega) hs
      have hkl : k < sp.length := by omega
      generalize sp[k] = s at *
      clear hc HN hsk
      generalize hN : sp.length = N at *
      by_cases e : s.1 = i
      · have HM2 : Hid _ := HM.out e
        have g1 : (s.1 == i) = true := by simp [e]
        clear HM HN2 HL
        go_wp2
        go_ret
        exact ⟨by rw [HM2.out]; rfl, rfl⟩
      · have HM2 : Hid _ := HN2.out e
        have g1 : (s.1 == i) = false := by simp [e]
        clear HM HN2 HL
        go_wp2
        exact ⟨⟨trivial, k + 1, by omega, by go_num, HM2.out⟩, by simp [intOf]; omega⟩
    · obtain rfl : k = sp.length := by omega
      have HM : Hid (mapP sp i = 0) := by
        show _ = _
        rw [mapP_skip HN.out, List.drop_length]
        rfl
      clear HN HL
      generalize sp.length = N at *
      go_wp2
      go_ret
      exact ⟨by rw [HM.out]; rfl, rfl⟩
set_option maxRecDepth 20000 in
theorem eg77 : Tryz.prog.eqGuardType Tryz.prog.depth 76 = false := by kernel_rfl
set_option maxRecDepth 20000 in
set_option maxHeartbeats 1000000 in
theorem blank29_any {w : World} {g : Nat} {n : Int} {l : List Cel} {y : Lay} (h : Aud w g n l y) (b : Int) :
    Calls Tryz.prog 173 #[.pointer (some ⟨g, 0, none⟩), .int .i64 b] w fun e w' => e = .returned (.bool (sameN 1024 (atL l b) nought)) ∧ Below w.heap.size w w' := by
  have hc := at29_any h b
  clear h
  obtain ⟨r, hr⟩ : ∃ r, sameN 1024 (atL l b) nought = r := ⟨_, rfl⟩
  rw [hr]
  generalize atL l b = f at *
  go_enter Tryz.func173, Tryz.ntmps173
  go_wp2_with (first | (go_at_call 126; fail))
  refine hc.mono ?_
  rintro e W ⟨rfl, hb⟩
  go_wp2_with (first | (with_reducible refine isBuildR 76 ?_; refine wpList_buildB rfl rfl ?_) | (with_reducible refine isEqR 76 76 ?_; refine wpList_eqN (m := 1024) Tryz.underlying76 eg77 rfl _ _ rfl f nought r rfl rfl hr ?_))
  go_ret
  exact ⟨rfl, hb⟩
/-- A file's row in memory. -/
theorem fl_cell {w : World} {g : Nat} {x : Fl} {t : TypeId} (h : w.heap[g]? = some (.cells (flCells x).toArray t)) : w.cell? ⟨g, 1, none⟩ = some (.int .u16 x.k) ∧ w.cell? ⟨g, 3, none⟩ = some (.int .u32 x.s) ∧ w.cell? ⟨g, 4, none⟩ = some (.int .u32 x.b) ∧ w.cell? ⟨g, 17, none⟩ = some (.slice x.p x.sp.length x.c) := by
  refine ⟨?_, ?_, ?_, ?_⟩ <;> (rw [cell_of_row w g _ _ t _ h]; rfl)
def manyP (x : Fl) : Int := (x.s + 1023) / 1024
structure FlOk (w : World) (x : Fl) : Prop where
  lie : LieG pc2 2 w x.p x.sp
  len : x.sp.length ≤ 1000000
  s : 0 ≤ x.s ∧ x.s ≤ 4294967295
  b : 0 ≤ x.b ∧ x.b ≤ 4294967295
/-- Nothing of the kind is wrong with it. -/
def FineP (l : List Cel) (x : Fl) (kind : Int) : Prop :=
  (kind = 10 ∧ x.b = x.sp.length) ∨ (kind = 12 ∧ (x.k = 2 → ∀ i : Nat, (i : Int) < manyP x → ¬ mapP x.sp i = 0)) ∨
  (kind = 9 ∧ (mapP x.sp (x.s / 1024) = 0 ∨ x.s % 1024 = 0 ∨ ∀ j : Nat, x.s % 1024 ≤ j → j < 1024 → atL l (mapP x.sp (x.s / 1024)) j = 0)) ∨
  (kind = 8 ∧ ∀ s ∈ x.sp, s.1 < manyP x) ∨ (kind = 7 ∧ ∀ s ∈ x.sp, s.1 < 0 → sameN 1024 (atL l s.2) nought = false)
set_option maxRecDepth 20000 in
set_option maxHeartbeats 4000000 in
theorem wrong29_blocks {w : World} {g : Nat} (x : Fl) (h : FlOk w x) (hb : x.b = x.sp.length) :
    Calls Tryz.prog 157 #[.pointer (some ⟨g, 0, none⟩), .agg (flCells x).toArray, .int .u8 10] w fun e w' => e = .returned (.bool false) ∧ Below w.heap.size w w' := by
  have hx := heap_alloc_new w (.cells (flCells x).toArray 157)
  have HB : Hid _ := below_new w (.cells (flCells x).toArray 157)
  obtain ⟨c1, c3, c4, c17⟩ := fl_cell hx
  have hup := up29_any x.s (w.alloc (.cells (flCells x).toArray 157)) (by have := h.s; omega)
  obtain ⟨_, hl, hs, hbb⟩ := h
  have e1 : IntKind.i64.wrap x.s = x.s := by rw [IntKind.wrap_i64]; omega
  have e2 : IntKind.i64.wrap x.b = x.b := by rw [IntKind.wrap_i64]; omega
  rw [hb] at c4 e2
  clear hx hbb hb
  generalize (flCells x).toArray = F at *
  generalize x.sp.length = M at *
  go_enter Tryz.func157, Tryz.ntmps157
  go_wp2_with (first | (go_at_call 172; fail))
  refine hup.mono ?_
  rintro e W ⟨rfl, rfl⟩
  clear hup
  go_wp2
  go_ret
  exact ⟨by simp, HB.out⟩
end Go.Proofs.YtkcgbhagjkhcmaaGreat
/- Files in which nothing is wrong: holes, tails, numbers beyond the end, blank index blocks. -/
namespace Go.Proofs.YtkcgbhagjkhcmaaGreat
open Go.RowKit Go.Maps
theorem LieG.keep {α : Type} {en : α → List Value} {sz : Nat} {w : World} {p : Option Addr} {l : List α} (h : LieG en sz w p l) (o : Obj) : LieG en sz (w.alloc o) p l := h.later (below_new w o)
set_option maxRecDepth 20000 in
set_option maxHeartbeats 4000000 in
theorem wrong29_hole {w : World} {g : Nat} (x : Fl) (h : FlOk w x) (hh : x.k = 2 → ∀ i : Nat, (i : Int) < manyP x → ¬ mapP x.sp i = 0) :
    Calls Tryz.prog 157 #[.pointer (some ⟨g, 0, none⟩), .agg (flCells x).toArray, .int .u8 12] w fun e w' => e = .returned (.bool false) ∧ Below w.heap.size w w' := by
  have hx := heap_alloc_new w (.cells (flCells x).toArray 157)
  have HB : Hid _ := below_new w (.cells (flCells x).toArray 157)
  obtain ⟨c1, c3, c4, c17⟩ := fl_cell hx
  have hup := up29_any x.s (w.alloc (.cells (flCells x).toArray 157)) (by have := h.s; omega)
  have HM : Hid (∀ i : Int, Calls Tryz.prog 165 #[.slice x.p x.sp.length x.c, .int .i64 i] (w.alloc (.cells (flCells x).toArray 157)) fun e w' => e = .returned (.int .i64 (mapP x.sp i)) ∧ w' = (w.alloc (.cells (flCells x).toArray 157))) := fun i => mapped29_any x.c (h.lie.keep _) h.len i
  obtain ⟨_, hl, hs, _⟩ := h
  have e1 : IntKind.i64.wrap x.s = x.s := by rw [IntKind.wrap_i64]; omega
  have HH : Hid (x.k = 2 → ∀ i : Nat, (i : Int) < (x.s + 1023) / 1024 → ¬ mapP x.sp i = 0) := hh
  obtain ⟨M, hM⟩ : ∃ M : Nat, (x.s + 1023) / 1024 = (M : Int) := ⟨((x.s + 1023) / 1024).toNat, by omega⟩
  have hM2 : M ≤ 4194305 := by omega
  rw [hM] at hup HH
  clear hx hh hM
  generalize (flCells x).toArray = F at *
  go_enter Tryz.func157, Tryz.ntmps157
  go_wp2_with (first | (go_at_call 172; fail))
  refine hup.mono ?_
  rintro e W ⟨rfl, rfl⟩
  clear hup
  go_wp2
  generalize w.alloc (.cells F 157) = V at *
  go_loopw [8] (fun s8 wx => wx = V ∧ ∃ i : Nat, i ≤ M ∧ s8 = .int .i64 i) (fun s8 _ => M - (intOf s8).toNat)
  case atStart => exact ⟨rfl, 0, by omega, rfl⟩
  case round =>
    obtain ⟨rfl, i, hi, rfl⟩ := hrel
    by_cases hi2 : (i : Int) < (M : Int)
    · by_cases hk : x.k = 2
      · have hne := HH.out hk i hi2
        have hc := HM.out i
        have g1 : (mapP x.sp i == 0) = false := by simp [hne]
        have g2 : (x.k == 2) = true := by simp [hk]
        rw [hk] at c1
        clear HH HM hne hk
        generalize x.sp.length = N at *
        go_wp2_with (first | (go_at_call 165; fail))
        refine hc.mono ?_
        rintro e W ⟨rfl, rfl⟩
        clear hc
        generalize mapP x.sp i = q at *
        go_wp2
        exact ⟨⟨trivial, i + 1, by omega, by go_num⟩, by simp [intOf]; omega⟩
      · have g2 : (x.k == 2) = false := by simp [hk]
        clear HH HM
        generalize x.sp.length = N at *
        generalize x.k = kk at *
        go_wp2
        go_ret
        exact ⟨rfl, HB.out⟩
    · clear HH HM
      generalize x.sp.length = N at *
      go_wp2
      go_ret
      exact ⟨rfl, HB.out⟩
set_option maxRecDepth 20000 in
set_option maxHeartbeats 4000000 in
theorem wrong29_tail {w : World} {g : Nat} {n : Int} {l : List Cel} {y : Lay} (ha : Aud w g n l y) (x : Fl) (h : FlOk w x) (hh : mapP x.sp (x.s / 1024) = 0 ∨ x.s % 1024 = 0 ∨ ∀ j : Nat, x.s % 1024 ≤ j → j < 1024 → atL l (mapP x.sp (x.s / 1024)) j = 0) :
    Calls Tryz.prog 157 #[.pointer (some ⟨g, 0, none⟩), .agg (flCells x).toArray, .int .u8 9] w fun e w' => e = .returned (.bool false) ∧ Below w.heap.size w w' := by
  have z := zero77
  have hx := heap_alloc_new w (.cells (flCells x).toArray 157)
  have HB : Hid _ := below_new w (.cells (flCells x).toArray 157)
  have HX : Hid _ := hx
  obtain ⟨c1, c3, c4, c17⟩ := fl_cell hx
  have hup := up29_any x.s (w.alloc (.cells (flCells x).toArray 157)) (by have := h.s; omega)
  have hm := mapped29_any x.c (h.lie.keep (.cells (flCells x).toArray 157)) h.len (x.s / 1024)
  have hat := at29_any (ha.later (below_new w (.cells (flCells x).toArray 157))) (mapP x.sp (x.s / 1024))
  obtain ⟨_, hl, hs, _⟩ := h
  have e1 : IntKind.i64.wrap x.s = x.s := by rw [IntKind.wrap_i64]; omega
  have e2 : x.s.tdiv 1024 = x.s / 1024 := Int.tdiv_eq_ediv_of_nonneg (by omega)
  have e3 : IntKind.i64.wrap (x.s / 1024) = x.s / 1024 := by rw [IntKind.wrap_i64]; omega
  have e4 : x.s.tmod 1024 = x.s % 1024 := Int.tmod_eq_emod_of_nonneg (by omega)
  obtain ⟨r, hr⟩ : ∃ r : Nat, x.s % 1024 = (r : Int) := ⟨(x.s % 1024).toNat, by omega⟩
  have hr2 : r < 1024 := by omega
  rw [hr] at hh e4
  have HH : Hid _ := hh
  clear hh
  generalize hF : (flCells x).toArray = F at *
  generalize mapP x.sp (x.s / 1024) = q at *
  generalize x.s / 1024 = sd at *
  generalize x.sp.length = N at *
  go_enter Tryz.func157, Tryz.ntmps157
  go_wp2_with (first | (go_at_call 172; fail))
  refine hup.mono ?_
  rintro e W ⟨rfl, rfl⟩
  clear hup
  go_wp2_with (first | (go_at_call 165; fail))
  refine hm.mono ?_
  rintro e W ⟨rfl, rfl⟩
  clear hm
  by_cases hq : q = 0
  · subst hq
    go_wp2
    go_ret
    exact ⟨rfl, HB.out⟩
  · have g1 : (q == 0) = false := by simp [hq]
    have w1 : IntKind.u32.wrap (r : Int) = (r : Int) := by rw [IntKind.wrap_u32]; omega
    have w2 : IntKind.i64.wrap (r : Int) = (r : Int) := by rw [IntKind.wrap_i64]; omega
    by_cases hr0 : (r : Int) = 0
    · have g2 : ((r : Int) == 0) = true := by simp [hr0]
      rw [hr0] at e4
      go_wp2
      go_ret
      exact ⟨rfl, HB.out⟩
    · have g2 : ((r : Int) == 0) = false := beq_eq_false_iff_ne.2 hr0
      have HZ : Hid (∀ j : Nat, (r : Int) ≤ j → j < 1024 → atL l q j = 0) := by
        rcases HH.out with e | e | e
        · exact absurd e hq
        · exact absurd e hr0
        · exact e
      clear HH
      go_wp2_with (first | (go_at_call 126; fail))
      refine hat.mono ?_
      rintro e W ⟨rfl, hb⟩
      generalize atL l q = f at *
      have hx2 := heap_kept HX.out hb
      have hx3 := heap_kept hx2 (below_new W (.cells (blk f) 76))
      rw [← hF] at hx3
      obtain ⟨_, d3, _, _⟩ := fl_cell hx3
      rw [hF] at hx3
      have HBk : Hid ((W.alloc (.cells (blk f) 76)).heap[W.heap.size]? = some (.cells (blk f) 76)) := heap_alloc_new _ _
      have HB2 : Hid (Below w.heap.size w (W.alloc (.cells (blk f) 76))) := below_next (below_next HB.out hb) (below_new _ _)
      clear hat hb hx2 hx3 c1 c3 c4 c17 hx
      go_wp2_with (first | (with_reducible refine isStoreR 76 ?_; refine wpList_stBn rfl (.tmp 10) (.tmp 104) rfl W.heap.size f nought 76 rfl rfl rfl ?_))
      generalize W.alloc (.cells (blk f) 76) = V at *
      go_loopw [11] (fun s11 wx => wx = V ∧ ∃ j : Nat, r ≤ j ∧ j ≤ 1024 ∧ s11 = .int .i64 j) (fun s11 _ => 1024 - (intOf s11).toNat)
      case atStart => exact ⟨rfl, r, by omega, by omega, rfl⟩
      case round =>
        obtain ⟨rfl, j, hj1, hj2, rfl⟩ := hrel
        by_cases hj : (j : Int) < 1024
        · have cb := cell_rowN (i := j) (m := 1024) HBk.out (by omega)
          rw [HZ.out j (by omega) (by omega)] at cb
          go_wp2
          exact ⟨⟨trivial, j + 1, by omega, by omega, by go_num⟩, by simp [intOf]; omega⟩
        · obtain rfl : j = 1024 := by omega
          go_wp2
          go_ret
          exact ⟨rfl, HB2.out⟩
set_option maxRecDepth 20000 in
set_option maxHeartbeats 4000000 in
theorem wrong29_beyond {w : World} {g : Nat} (x : Fl) (h : FlOk w x) (hh : ∀ s ∈ x.sp, s.1 < manyP x) :
    Calls Tryz.prog 157 #[.pointer (some ⟨g, 0, none⟩), .agg (flCells x).toArray, .int .u8 8] w fun e w' => e = .returned (.bool false) ∧ Below w.heap.size w w' := by
  have hx := heap_alloc_new w (.cells (flCells x).toArray 157)
  have HB : Hid _ := below_new w (.cells (flCells x).toArray 157)
  have HX : Hid _ := hx
  have hup := up29_any x.s (w.alloc (.cells (flCells x).toArray 157)) (by have := h.s; omega)
  have HL : Hid (LieG pc2 2 w x.p x.sp) := h.lie
  obtain ⟨c1, c3, c4, c17⟩ := fl_cell hx
  obtain ⟨_, hl, hs, _⟩ := h
  have e1 : IntKind.i64.wrap x.s = x.s := by rw [IntKind.wrap_i64]; omega
  have HH : Hid (∀ s ∈ x.sp, s.1 < (x.s + 1023) / 1024) := hh
  clear hx hh
  generalize hF : (flCells x).toArray = F at *
  go_enter Tryz.func157, Tryz.ntmps157
  go_wp2_with (first | (go_at_call 172; fail))
  refine hup.mono ?_
  rintro e W ⟨rfl, rfl⟩
  clear hup
  generalize (x.s + 1023) / 1024 = m at *
  go_wp2
  clear c1 c3 c4 c17
  generalize w.alloc (.cells F 157) = V at *
  go_loopw [12, 13] (fun s12 _ wx => ∃ i : Nat, i ≤ x.sp.length ∧ s12 = .int .i64 i ∧ Hid (Below V.heap.size V wx)) (fun s12 _ _ => x.sp.length - (intOf s12).toNat)
  case atStart => exact ⟨0, by omega, rfl, Below.refl _ _⟩
  case round =>
    obtain ⟨i, hi, rfl, HW⟩ := hrel
    have hx2 := heap_kept HX.out HW.out
    rw [← hF] at hx2
    obtain ⟨_, _, _, c17⟩ := fl_cell hx2
    rw [hF] at hx2
    by_cases hi2 : (i : Int) < (x.sp.length : Int)
    · have hlw := HL.out.later (below_next HB.out HW.out)
      obtain ⟨gs, hp, _, hc⟩ := hlw (by omega)
      have hsk : x.sp[i]? = some x.sp[i] := List.getElem?_eq_getElem (by omega)
      have c0 : wr.cell? ⟨gs, i * 2, none⟩ = some (.int .i64 (x.sp[i]).1) := hc i _ hsk 0 _ rfl
      have c1 : wr.cell? ⟨gs, i * 2 + 1, none⟩ = some (.int .i64 (x.sp[i]).2) := hc i _ hsk 1 _ rfl
      have hlt := HH.out x.sp[i] (List.getElem_mem (by omega))
      have hil : i < x.sp.length := by omega
      rw [hp] at c17
      generalize x.sp[i] = s at *
      clear hc hlw hsk hp
      have HW2 : Hid (Below V.heap.size V (wr.alloc (.cells #[.int .i64 s.1, .int .i64 s.2] 203))) := below_next HW.out (below_new _ _)
      have g1 : decide (m ≤ s.1) = false := decide_eq_false (by omega)
      clear hx2 HW
      generalize x.sp.length = N at *
      go_wp2
      exact ⟨⟨i + 1, by omega, by go_num, HW2.out⟩, by simp [intOf]; omega⟩
    · have HR : Hid (Below w.heap.size w wr) := below_next HB.out HW.out
      clear HW hx2 HL HH
      generalize x.sp.length = N at *
      go_wp2
      go_ret
      exact ⟨rfl, HR.out⟩
set_option maxRecDepth 20000 in
set_option maxHeartbeats 4000000 in
theorem wrong29_index {w : World} {g : Nat} {n : Int} {l : List Cel} {y : Lay} (ha : Aud w g n l y) (x : Fl) (h : FlOk w x) (hh : ∀ s ∈ x.sp, s.1 < 0 → sameN 1024 (atL l s.2) nought = false) :
    Calls Tryz.prog 157 #[.pointer (some ⟨g, 0, none⟩), .agg (flCells x).toArray, .int .u8 7] w fun e w' => e = .returned (.bool false) ∧ Below w.heap.size w w' := by
  have hx := heap_alloc_new w (.cells (flCells x).toArray 157)
  have HB : Hid _ := below_new w (.cells (flCells x).toArray 157)
  have HX : Hid _ := hx
  have HA : Hid _ := ha
  have hup := up29_any x.s (w.alloc (.cells (flCells x).toArray 157)) (by have := h.s; omega)
  have HL : Hid (LieG pc2 2 w x.p x.sp) := h.lie
  obtain ⟨c1, c3, c4, c17⟩ := fl_cell hx
  obtain ⟨_, hl, hs, _⟩ := h
  have e1 : IntKind.i64.wrap x.s = x.s := by rw [IntKind.wrap_i64]; omega
  have HH : Hid _ := hh
  clear hx hh ha
  generalize hF : (flCells x).toArray = F at *
  go_enter Tryz.func157, Tryz.ntmps157
  go_wp2_with (first | (go_at_call 172; fail))
  refine hup.mono ?_
  rintro e W ⟨rfl, rfl⟩
  clear hup
  generalize (x.s + 1023) / 1024 = m at *
  go_wp2
  clear c1 c3 c4 c17
  generalize w.alloc (.cells F 157) = V at *
  go_loopw [12, 13] (fun s12 _ wx => ∃ i : Nat, i ≤ x.sp.length ∧ s12 = .int .i64 i ∧ Hid (Below V.heap.size V wx)) (fun s12 _ _ => x.sp.length - (intOf s12).toNat)
  case atStart => exact ⟨0, by omega, rfl, Below.refl _ _⟩
  case round =>
    obtain ⟨i, hi, rfl, HW⟩ := hrel
    have hx2 := heap_kept HX.out HW.out
    rw [← hF] at hx2
    obtain ⟨_, _, _, c17⟩ := fl_cell hx2
    rw [hF] at hx2
    by_cases hi2 : (i : Int) < (x.sp.length : Int)
    · have hlw := HL.out.later (below_next HB.out HW.out)
      obtain ⟨gs, hp, _, hc⟩ := hlw (by omega)
      have hsk : x.sp[i]? = some x.sp[i] := List.getElem?_eq_getElem (by omega)
      have c0 : wr.cell? ⟨gs, i * 2, none⟩ = some (.int .i64 (x.sp[i]).1) := hc i _ hsk 0 _ rfl
      have c1 : wr.cell? ⟨gs, i * 2 + 1, none⟩ = some (.int .i64 (x.sp[i]).2) := hc i _ hsk 1 _ rfl
      have hlt := HH.out x.sp[i] (List.getElem_mem (by omega))
      have hil : i < x.sp.length := by omega
      rw [hp] at c17
      generalize x.sp[i] = s at *
      have HW2 : Hid (Below V.heap.size V (wr.alloc (.cells #[.int .i64 s.1, .int .i64 s.2] 203))) := below_next HW.out (below_new _ _)
      have hbl := blank29_any (HA.out.later (below_next HB.out HW2.out)) s.2
      clear hc hlw hsk hp hx2 HW
      by_cases hs0 : s.1 < 0
      · have g1 : decide (s.1 < 0) = true := decide_eq_true hs0
        rw [hlt hs0] at hbl
        clear hlt
        generalize x.sp.length = N at *
        go_wp2_with (first | (go_at_call 173; fail))
        refine hbl.mono ?_
        rintro e W ⟨rfl, hb⟩
        have HW3 : Hid (Below V.heap.size V W) := below_next HW2.out hb
        clear hbl hb HW2
        go_wp2
        exact ⟨⟨i + 1, by omega, by go_num, HW3.out⟩, by simp [intOf]; omega⟩
      · have g1 : decide (s.1 < 0) = false := decide_eq_false hs0
        clear hbl hlt
        generalize x.sp.length = N at *
        go_wp2
        exact ⟨⟨i + 1, by omega, by go_num, HW2.out⟩, by simp [intOf]; omega⟩
    · have HR : Hid (Below w.heap.size w wr) := below_next HB.out HW.out
      clear HW hx2 HL HH
      generalize x.sp.length = N at *
      go_wp2
      go_ret
      exact ⟨rfl, HR.out⟩
theorem wrong29_ok {w : World} {g : Nat} {n : Int} {l : List Cel} {y : Lay} (ha : Aud w g n l y) (x : Fl) (h : FlOk w x) (kind : Int) (hk : FineP l x kind) :
    Calls Tryz.prog 157 #[.pointer (some ⟨g, 0, none⟩), .agg (flCells x).toArray, .int .u8 kind] w fun e w' => e = .returned (.bool false) ∧ Below w.heap.size w w' := by
  rcases hk with ⟨rfl, hk⟩ | ⟨rfl, hk⟩ | ⟨rfl, hk⟩ | ⟨rfl, hk⟩ | ⟨rfl, hk⟩
  · exact wrong29_blocks x h hk
  · exact wrong29_hole x h hk
  · exact wrong29_tail ha x h hk
  · exact wrong29_beyond x h hk
  · exact wrong29_index ha x h hk
end Go.Proofs.YtkcgbhagjkhcmaaGreat
/- Files: each by itself; the marks. -/
namespace Go.Proofs.YtkcgbhagjkhcmaaGreat
open Go.RowKit Go.Maps
theorem size155 : (Tryz.prog.info? 157).map (·.size) = some 18 := by kernel_rfl
theorem loadF {w : World} {b off : Nat} {x : Fl} (h : ∀ j u, (flCells x)[j]? = some u → w.cell? ⟨b, off + j, none⟩ = some u) : (Instr.loadAt 157 (.pointer (some ⟨b, off, none⟩))).run Tryz.prog w = .ok (.agg (flCells x).toArray) w :=
  run_loadAt_mid (P := Tryz.prog) w b off 157 (flCells x) _ (fun j v hv => h j v hv) Tryz.underlying157 rfl (by rw [flCells_len]; exact size155)
theorem wpList_ldF {ops : Array Oper} {rest : List Oper} {o : Oper} {a : Act} {w : World} {Q : Exit → Act → World → Prop} (hw : Region.wanted o (yielded ops a.tmps) = true) (x : Operand) (ho : o.op = .load 157 x) (b off : Nat) (f : Fl) (hx : a.eval x = .pointer (some ⟨b, off, none⟩)) (hg : ∀ j u, (flCells f)[j]? = some u → w.cell? ⟨b, off + j, none⟩ = some u)
    (h : wpList Tryz.prog ops Q rest (a.put o.dst (.agg (flCells f).toArray)) w) : wpList Tryz.prog ops Q (o :: rest) a w := by
  unfold wpList
  rw [if_pos hw]
  refine .inl ?_
  unfold Oper.wp execOp
  simp only [ho, hx, loadF hg, Sem.run_bind, Result.andThen_ok, Sem.run_pure]
  exact h
theorem FlsAt.get {w : World} {p : Option Addr} {L : List Fl} (h : FlsAt w p L) {x : Fl} (hx : x ∈ L) (hs : 0 ≤ x.s ∧ x.s ≤ 4294967295) (hb : 0 ≤ x.b ∧ x.b ≤ 4294967295) : FlOk w x := ⟨h.sp x hx, h.len2 x hx, hs, hb⟩
set_option maxRecDepth 20000 in
set_option maxHeartbeats 4000000 in
theorem filesF29_ok {w : World} {g : Nat} {n : Int} {l : List Cel} {y : Lay} (h : Aud w g n l y) {p : Option Addr} {L : List Fl} (c : Nat) (hL : FlsAt w p L) (kind : Int) (hsb : ∀ x ∈ L, (0 ≤ x.s ∧ x.s ≤ 4294967295) ∧ (0 ≤ x.b ∧ x.b ≤ 4294967295)) (hok : ∀ x ∈ L, FineP l x kind) :
    Calls Tryz.prog 117 #[.pointer (some ⟨g, 0, none⟩), .slice p L.length c, .int .u8 kind] w fun e w' => e = .returned (.slice none 0 0) ∧ Below w.heap.size w w' := by
  have z := zero230
  have HX : Hid _ := heap_alloc_new w (.cells #[.int .u8 kind, .slice none 0 0] 235)
  have HB : Hid _ := below_new w (.cells #[.int .u8 kind, .slice none 0 0] 235)
  have HA : Hid _ := h
  have HL : Hid _ := hL
  have HO : Hid _ := hok
  have HS : Hid _ := hsb
  have hlen := hL.len
  clear h hL hok hsb
  go_enter Tryz.func117, Tryz.ntmps117
  go_wp2
  generalize w.alloc (.cells #[.int .u8 kind, .slice none 0 0] 235) = V at *
  go_loopw [8, 9] (fun s8 _ wx => ∃ i : Nat, i ≤ L.length ∧ s8 = .int .i64 i ∧ Hid (Below V.heap.size V wx)) (fun s8 _ _ => L.length - (intOf s8).toNat)
  case atStart => exact ⟨0, by omega, rfl, Below.refl _ _⟩
  case round =>
    obtain ⟨i, hi, rfl, HW⟩ := hrel
    have hbw := below_next HB.out HW.out
    by_cases hi2 : (i : Int) < (L.length : Int)
    · have hLw := HL.out.later hbw
      obtain ⟨gf, x, rfl, _, hxL, hcx⟩ := hLw.at (i := i) (by omega)
      have hs := HS.out x hxL
      have hcall := wrong29_ok (HA.out.later hbw) x (hLw.get hxL hs.1 hs.2) kind (HO.out x hxL)
      have hil : i < L.length := by omega
      generalize L.length = N at *
      clear hs hLw hxL
      go_wp2_with (first | (with_reducible refine isLoadR 157 ?_; refine wpList_ldF rfl (.tmp 22) rfl gf (i * 18) x rfl hcx ?_) | (go_at_call 157; fail))
      refine hcall.mono ?_
      rintro e W ⟨rfl, hb⟩
      have HW2 : Hid (Below V.heap.size V W) := below_next HW.out hb
      clear hb hcall hcx HW hbw
      go_wp2
      exact ⟨⟨i + 1, by omega, by go_num, HW2.out⟩, by simp [intOf]; omega⟩
    · have hx := heap_kept HX.out HW.out
      have c1 := Joins.cell_of_block hx 1
      have HR : Hid _ := hbw
      clear hx hbw HW HX HA HL HO HS
      go_wp2
      go_ret
      exact ⟨rfl, HR.out⟩
end Go.Proofs.YtkcgbhagjkhcmaaGreat
