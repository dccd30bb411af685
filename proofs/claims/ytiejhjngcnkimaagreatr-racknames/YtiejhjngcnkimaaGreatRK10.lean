/- Several texts joined, each with its own remark; no condition. -/
import Derived.Test.YtiejhjngcnkimaaGreatRK9
/- What a log tells of itself, and whom it refuses; no condition. -/
namespace Go.Proofs.YtiejhjngcnkimaaGreatRW
open Go.RowKit Go.Maps
variable {w W : World} {g d c mb : Nat} {v : Value} {x : LSt} {s : CSt} {t : St} {os ks : List (Nat × Obj)} {base : Nat}
theorem LogAt.c0 (h : LogAt W base g d c mb v x) : W.cell? ⟨g, 0, none⟩ = some (ptr g) := h.cell 0
theorem LogAt.c1 (h : LogAt W base g d c mb v x) : W.cell? ⟨g, 1, none⟩ = some (ptr d) := h.cell 1
theorem LogAt.c2 (h : LogAt W base g d c mb v x) : W.cell? ⟨g, 2, none⟩ = some (.int .i64 x.claim) := h.cell 2
theorem LogAt.c3 (h : LogAt W base g d c mb v x) : W.cell? ⟨g, 3, none⟩ = some (.int .i64 x.b) := h.cell 3
theorem LogAt.c4 (h : LogAt W base g d c mb v x) : W.cell? ⟨g, 4, none⟩ = some (.int .i64 x.l) := h.cell 4
theorem LogAt.c6 (h : LogAt W base g d c mb v x) : W.cell? ⟨g, 6, none⟩ = some (.int .i64 1) := h.cell 6
theorem LogAt.c7 (h : LogAt W base g d c mb v x) : W.cell? ⟨g, 7, none⟩ = some (.int .i64 (1 + x.l)) := h.cell 7
theorem LogAt.c12 (h : LogAt W base g d c mb v x) : W.cell? ⟨g, 12, none⟩ = some (ptr c) := h.cell 12
theorem LogAt.c13 (h : LogAt W base g d c mb v x) : W.cell? ⟨g, 13, none⟩ = some v := h.cell 13
theorem LogAt.c14 (h : LogAt W base g d c mb v x) : W.cell? ⟨g, 14, none⟩ = some (.map (some mb)) := h.cell 14
theorem LogAt.c15 (h : LogAt W base g d c mb v x) : W.cell? ⟨g, 15, none⟩ = some (.bool x.opn) := h.cell 15
theorem LogAt.c16 (h : LogAt W base g d c mb v x) : W.cell? ⟨g, 16, none⟩ = some (.int .i64 x.room) := h.cell 16
theorem LogAt.c18 (h : LogAt W base g d c mb v x) : W.cell? ⟨g, 18, none⟩ = some (.int .i64 x.steps) := h.cell 18
theorem LogAt.free (h : LogAt W base g d c mb v x) (i : Nat) : W.frozen? ⟨g, i, none⟩ = false := Joins.unfrozen_of_block h.row i
theorem LogAt.later {W' : World} (h : LogAt W base g d c mb v x) (hb : Below W.heap.size W W') : LogAt W' base g d c mb v x := h.kept fun k hk => hb.block k (h.lt k hk)
theorem info48 : ∃ j, Tryz.prog.info? 67 = some j := Option.isSome_iff_exists.1 (by kernel_rfl)
theorem neq26 (w : World) (a : Addr) : (binOp .neq 35 (.pointer (some a)) (.pointer (some a))).run Tryz.prog w = .ok (.bool false) w := by
  obtain ⟨j, hj⟩ := info48
  exact neq_same w a Tryz.underlying35 hj
def chkE (x : LSt) (t : St) : Int := if claimedV t x.claim then 0 else 3
theorem sit_claimed (h : Sit w W c d s t ks) (k : Int) : Calls Tryz.prog 97 #[ptr d, .int .i64 k] W fun e W' => e = .returned (.bool (claimedV t k)) ∧ W' = W := by
  obtain ⟨K, L, rfl, rfl, h⟩ := h
  exact claimed_of h.cd.disk k
theorem below_drewN (W : World) (n : Nat) : Below W.heap.size W (W.drewN n) := H.belowN (Below.refl _ _) n
theorem LS.check (h : LS w W g d c mb v x s t os ks) : Calls Tryz.prog 45 #[ptr g] W fun e W' => e = .returned (.int .i64 (chkE x t)) ∧ ∃ m, W' = W.drewN m := by
  have hn := neq26
  have hq : ∀ n, Calls Tryz.prog 97 #[ptr d, .int .i64 x.claim] (W.drewN n) fun e W' => e = .returned (.bool (claimedV t x.claim)) ∧ W' = W.drewN n := fun n => sit_claimed (h.sit.later (below_drewN W n)) _
  have c0 := h.log.c0
  have c1 := h.log.c1
  have c2 := h.log.c2
  clear h
  unfold ptr at *
  unfold chkE
  cases hc : claimedV t x.claim
  · rw [hc] at hq
    go_enter Tryz.func45, Tryz.ntmps45
    go_wp2
    go_quiet (first | (go_at_call 97; refine Calls.quiet_of_same (hq _)))
    go_wp2
    go_ret
    exact ⟨rfl, _, rfl⟩
  · rw [hc] at hq
    go_enter Tryz.func45, Tryz.ntmps45
    go_wp2
    go_quiet (first | (go_at_call 97; refine Calls.quiet_of_same (hq _)))
    go_wp2
    go_ret
    exact ⟨rfl, _, rfl⟩
def refL (x : LSt) (t : St) (o : Bool) : Int := if claimedV t x.claim then (if x.opn = o then 0 else 180) else 3
theorem LS.refuses (h : LS w W g d c mb v x s t os ks) (o : Bool) : Calls Tryz.prog 52 #[ptr g, .bool o] W fun e W' => e = .returned (.int .i64 (refL x t o)) ∧ ∃ m, W' = W.drewN m := by
  have h0 := h.check
  have c15 : ∀ m, (W.drewN m).cell? ⟨g, 15, none⟩ = some (.bool x.opn) := fun m => (h.log.later (below_drewN W m)).c15
  clear h
  unfold ptr at *
  unfold chkE at h0
  unfold refL
  cases hc : claimedV t x.claim
  · rw [hc] at h0
    go_enter Tryz.func52, Tryz.ntmps52
    go_wp2_with (first | (go_at_call 45; refine h0.mono ?_; rintro e W1 ⟨rfl, m, rfl⟩))
    go_ret
    exact ⟨rfl, _, rfl⟩
  · rw [hc] at h0
    by_cases ho : x.opn = o
    · subst ho
      rw [if_pos rfl, if_pos rfl]
      cases hx : x.opn
      · rw [hx] at c15
        go_enter Tryz.func52, Tryz.ntmps52
        go_wp2_with (first | (go_at_call 45; refine h0.mono ?_; rintro e W1 ⟨rfl, m, rfl⟩; have c15 := c15 m))
        go_ret
        exact ⟨rfl, _, rfl⟩
      · rw [hx] at c15
        go_enter Tryz.func52, Tryz.ntmps52
        go_wp2_with (first | (go_at_call 45; refine h0.mono ?_; rintro e W1 ⟨rfl, m, rfl⟩; have c15 := c15 m))
        go_ret
        exact ⟨rfl, _, rfl⟩
    · rw [if_pos rfl, if_neg ho]
      cases hx : x.opn <;> cases o
      · exact absurd hx ho
      · rw [hx] at c15
        go_enter Tryz.func52, Tryz.ntmps52
        go_wp2_with (first | (go_at_call 45; refine h0.mono ?_; rintro e W1 ⟨rfl, m, rfl⟩; have c15 := c15 m))
        go_ret
        exact ⟨rfl, _, rfl⟩
      · rw [hx] at c15
        go_enter Tryz.func52, Tryz.ntmps52
        go_wp2_with (first | (go_at_call 45; refine h0.mono ?_; rintro e W1 ⟨rfl, m, rfl⟩; have c15 := c15 m))
        go_ret
        exact ⟨rfl, _, rfl⟩
      · exact absurd hx ho
theorem LS.most (h : LS w W g d c mb v x s t os ks) (hl : 32 ≤ x.l ∧ x.l ≤ 256) : Calls Tryz.prog 53 #[ptr g] W fun e W' => e = .returned (.int .i64 (x.l - 1)) ∧ W' = W := by
  have c4 := h.log.c4
  clear h
  unfold ptr at *
  have hw : (x.l - 1 + 9223372036854775808) % 18446744073709551616 - 9223372036854775808 = x.l - 1 := by omega
  go_enter Tryz.func53, Tryz.ntmps53
  go_wp2
  go_ret
  exact ⟨by first | rfl | simp [hw], rfl⟩
def ofL (x : LSt) (k : Int) : Bool := decide (1 ≤ k ∧ k < 1 + x.l)
theorem LS.ofLog (h : LS w W g d c mb v x s t os ks) (k : Int) : Calls Tryz.prog 147 #[ptr g, .int .i64 k] W fun e W' => e = .returned (.bool (ofL x k)) ∧ W' = W := by
  have c6 := h.log.c6
  have c7 := h.log.c7
  clear h
  unfold ptr at *
  unfold ofL
  by_cases h1 : 1 ≤ k
  · by_cases h2 : k < 1 + x.l
    · rw [decide_eq_true ⟨h1, h2⟩]
      go_enter Tryz.func147, Tryz.ntmps147
      go_wp2
      go_ret
      exact ⟨rfl, rfl⟩
    · rw [decide_eq_false fun q => h2 q.2]
      go_enter Tryz.func147, Tryz.ntmps147
      go_wp2
      go_ret
      exact ⟨rfl, rfl⟩
  · rw [decide_eq_false fun q => h1 q.1]
    go_enter Tryz.func147, Tryz.ntmps147
    go_wp2
    go_ret
    exact ⟨rfl, rfl⟩
end Go.Proofs.YtiejhjngcnkimaaGreatRW
/- A group is forgotten, by a call and by a call that was deferred; no condition. -/
namespace Go.Proofs.YtiejhjngcnkimaaGreatRW
open Go.RowKit Go.Maps
variable {w W : World} {g d c mb : Nat} {v : Value} {x : LSt} {s : CSt} {t : St} {os ks : List (Nat × Obj)} {base : Nat}
theorem makeMap38 (w : World) : (Instr.makeMap 63 none).run Tryz.prog w = .ok (.map (some w.heap.size)) (w.alloc (.map #[] 0)) := by
  simp [Instr.makeMap, go_sem]
def forgotW (W : World) (g : Nat) : World := ((W.setCell ⟨g, 13, none⟩ (.slice none 0 0)).setCell ⟨g, 14, none⟩ (.map (some W.heap.size))).alloc (.map #[] 0)
theorem forget_raw {cs : Array Value} (h : W.heap[g]? = some (.cells cs 67)) (hs : cs.size = 19) : Calls Tryz.prog 92 #[.pointer (some ⟨g, 13, none⟩)] W fun e W' => e = .returned (.tuple #[]) ∧ W' = forgotW W g := by
  have c13 : W.cell? ⟨g, 13, none⟩ = some cs[13] := by rw [Joins.cell_of_block h 13]; simp
  have c14 : W.cell? ⟨g, 14, none⟩ = some cs[14] := by rw [Joins.cell_of_block h 14]; simp
  have f13 := Joins.unfrozen_of_block h 13
  have f14 := Joins.unfrozen_of_block h 14
  have hm := makeMap38 W
  have hlt := (Array.getElem?_eq_some_iff.1 h).1
  clear h
  go_enter Tryz.func92, Tryz.ntmps92
  go_wp2
  go_end0
  exact ⟨rfl, rfl⟩
end Go.Proofs.YtiejhjngcnkimaaGreatRW
/- A block is changed by a step, and whether it was; blocks have numbers below 2 to the 20th, and there are at most as many. -/
namespace Go.Proofs.YtiejhjngcnkimaaGreatRW
open Go.RowKit Go.Maps
variable {w W : World} {g d c mb : Nat} {v : Value} {x : LSt} {s : CSt} {t : St} {os ks : List (Nat × Obj)} {base : Nat}
def byB (x : LSt) (k n : Int) : Bool := x.last k == some n
theorem z3i (w : World) : (zeroValue 3).run Tryz.prog w = .ok (.int .i64 0) w := zero3 w
theorem LS.changedBy (h : LS w W g d c mb v x s t os ks) {k n : Int} (hk : inTop k) : Calls Tryz.prog 153 #[.pointer (some ⟨g, 13, none⟩), .int .i64 k, .int .i64 n] W fun e W' => e = .returned (.bool (byB x k n)) ∧ W' = W := by
  have c14 := h.log.c14
  have hM := h.log.map
  have z3 := z3i
  have hW := hk.wf
  clear h hk
  unfold byB
  cases hl : x.last k with
  | none =>
    have hv : lastM x k = none := by unfold lastM; rw [hl]; rfl
    go_enter Tryz.func153, Tryz.ntmps153
    go_wp2_with (first | refine wpList_lookM_none rfl (.tmp 13) (.tmp 14) 63 rfl 3 Tryz.underlying3 keyed3 Tryz.underlying63 rfl hM (z3 _) k hW rfl hv ?_)
    go_ret
    exact ⟨rfl, rfl⟩
  | some m =>
    have hv : lastM x k = some (.int .i64 m) := by unfold lastM; rw [hl]; rfl
    by_cases hm : m = n
    · subst hm
      go_enter Tryz.func153, Tryz.ntmps153
      go_wp2_with (first | refine wpList_lookM_some rfl (.tmp 13) (.tmp 14) 63 rfl 3 Tryz.underlying3 keyed3 Tryz.underlying63 rfl hM (z3 _) k hW rfl _ hv ?_)
      go_ret
      exact ⟨by simp, rfl⟩
    · go_enter Tryz.func153, Tryz.ntmps153
      go_wp2_with (first | refine wpList_lookM_some rfl (.tmp 13) (.tmp 14) 63 rfl 3 Tryz.underlying3 keyed3 Tryz.underlying63 rfl hM (z3 _) k hW rfl _ hv ?_)
      go_ret
      exact ⟨by simp, rfl⟩
def changeL (x : LSt) (k n : Int) : LSt := { x with blocks := if x.last k = none then x.blocks ++ [k] else x.blocks, last := fun y => if y = k then some n else x.last y }
theorem lastM_change (x : LSt) (k n : Int) : lastM (changeL x k n) = fun y => if y = k then some (.int .i64 n) else lastM x y := by
  funext y
  unfold lastM changeL
  simp only
  by_cases e : y = k
  · rw [if_pos e, if_pos e]; rfl
  · rw [if_neg e, if_neg e]
theorem LS.changeOld (h : LS w W g d c mb v x s t os ks) {k n : Int} (hk : inTop k) (hl : x.last k ≠ none) : Calls Tryz.prog 154 #[.pointer (some ⟨g, 13, none⟩), .int .i64 k, .int .i64 n] W fun e W' => e = .returned (.tuple #[]) ∧ LogSit w W' g d (changeL x k n) s t ks := by
  have c14 := h.log.c14
  have hM := h.log.map
  have z3 := z3i
  have hW := hk.wf
  have HH : Hid (∀ W', MapIs Tryz.prog 3 W' mb (fun y => if y = k then some (.int .i64 n) else lastM x y) → W.grownBy W' (some mb) → LogSit w W' g d (changeL x k n) s t ks) := fun W' h1 h2 => by
    have hf := Fr.ofGrown h2
    refine h.turn (mb' := mb) (v' := v) hf (fun j hj => .inr (.inl (by injection hj with hj; exact hj.symm))) ⟨?_, by rw [lastM_change]; exact h1, ?_⟩ fun _ q => .inl q
    · refine (hf.block g (h.log.lt g (.inl rfl)) fun q => h.log.gm ?_).trans ?_
      · injection q with q; exact q.symm
      · exact h.log.row
    · unfold changeL
      simp only
      rw [if_neg hl]
      exact ownsRow_kept0 h.log.own fun j hj => hf.block j (World.ownsRow.lt h.log.own j hj).2 fun q => h.log.mv (by injection q with q; rw [q]; exact hj)
  have HI : Hid (inTop k) := hk
  clear h hk
  obtain ⟨m, hm⟩ := Option.ne_none_iff_exists'.1 hl
  have hv : lastM x k = some (.int .i64 m) := by unfold lastM; rw [hm]; rfl
  go_enter Tryz.func154, Tryz.ntmps154
  go_wp2_with (first | refine wpList_lookM_some rfl (.tmp 12) (.tmp 13) 63 rfl 3 Tryz.underlying3 keyed3 Tryz.underlying63 rfl hM (z3 _) k hW rfl _ hv ?_ | (refine wpList_putM rfl (.tmp 32) (.tmp 33) (.tmp 34) 63 rfl 3 Tryz.underlying3 keyed3 Tryz.underlying63 mb _ rfl hM k HI.out rfl _ rfl ?_; intro W3 hm3 hg3; have HR : Hid (LogSit w W3 g d (changeL x k n) s t ks) := HH.out W3 hm3 hg3; clear hm3 hg3))
  go_end0
  exact ⟨rfl, HR.out⟩
section
variable {ops : Array Oper} {rest : List Oper} {o : Oper} {a : Act} {Q : Exit → Act → World → Prop}
theorem wpList_pushAt {W : World} (hgd : o.guard = none) (s x : Operand)
    (ho : o.op = .call { callee := .builtin .append, args := #[s, x], argTypes := #[54, 54] }) (base : Nat) (v : Value) (xs : List Int) (y : Int) (hs : a.eval s = v)
    (hx : a.eval x = .slice (some ⟨W.heap.size, 0, none⟩) 1 1) (hown : H.OwnZ W base v xs) (hn : xs.length ≤ 1048576) (hbase : base ≤ W.heap.size)
    (h : ∀ v' w', H.OwnZ w' base v' (xs ++ [y]) → (W.alloc (.cells #[.int .i64 y] 3)).grownBy w' v.ownBlock → (v'.ownBlock = v.ownBlock ∨ v'.ownBlock = some (W.heap.size + 1)) → wpList Tryz.prog ops Q rest (a.put o.dst v') w') :
    wpList Tryz.prog ops Q (o :: rest) a (W.alloc (.cells #[.int .i64 y] 3)) := by
  obtain ⟨i0, hi0, hz0, hz1, hz2⟩ := info_parts H.info3
  refine wpList_append_own_at _ hgd s x 54 ho base 3 i0 (.int .i64 0) 1 8 Tryz.underlying54 hi0 hz0 hz1 hz2 rfl (by decide) v xs.length (xs.map (Value.int .i64)) hs (World.ownsRow.alloc hown _) ⟨W.heap.size, 0, none⟩ 1 1 [.int .i64 y] hx rfl (cell_one_new _ _ _)
    (fun u hu => by simp at hu; subst hu; rfl) (by unfold maxLen; omega) (by omega) (by simp; omega) ?_
  intro v' w' hown' hg _ hat
  refine h v' w' ?_ hg (by simpa using hat)
  unfold H.OwnZ
  rw [List.length_append, List.map_append]
  exact hown'
end
theorem own_ne {v' : Value} {zs : List Int} {cs : Array Value} (h : H.OwnZ W base v' zs) (hr : W.heap[g]? = some (.cells cs 67)) : v'.ownBlock ≠ some g := by
  intro e
  rcases h.2 with q | ⟨g', cap, cur, rfl, hB, hg, rest⟩
  · rw [q.1] at e; cases e
  · cases e
    rw [hg] at hr
    injection hr with hr
    injection hr with _ hr
    cases hr
theorem own_nm {v' : Value} {zs : List Int} {m : Int → Option Value} (h : H.OwnZ W base v' zs) (hm : MapIs Tryz.prog 3 W mb m) : v'.ownBlock ≠ some mb := by
  intro e
  obtain ⟨es, cl, h1⟩ := hm.isMap
  rcases h.2 with q | ⟨g', cap, cur, rfl, hB, hg, rest⟩
  · rw [q.1] at e; cases e
  · cases e
    rw [hg] at h1
    cases h1
theorem LS.changed (h : LS w W g d c mb v x s t os ks) {k n : Int} (hl : x.last k = none) {v' : Value} {W1 W3 : World} (hO : H.OwnZ W1 w.heap.size v' (x.blocks ++ [k])) (hg1 : (W.alloc (.cells #[.int .i64 k] 3)).grownBy W1 v.ownBlock)
    (hat : v'.ownBlock = v.ownBlock ∨ v'.ownBlock = some (W.heap.size + 1)) (hr1 : W1.heap[g]? = some (.cells (lgRow g d c mb v x) 67)) (hm2 : MapIs Tryz.prog 3 (W1.setCell ⟨g, 13, none⟩ v') mb (lastM x))
    (hm3 : MapIs Tryz.prog 3 W3 mb (fun y => if y = k then some (.int .i64 n) else lastM x y)) (hg3 : (W1.setCell ⟨g, 13, none⟩ v').grownBy W3 (some mb)) : LogSit w W3 g d (changeL x k n) s t ks := by
  have hgm := h.log.gm
  have hlt1 := (Array.getElem?_eq_some_iff.1 hr1).1
  have hr2 := Joins.block_setCell (i := 13) hr1 v'
  have f2 := Fr.setCell W1 g 13 v'
  have f3 := Fr.ofGrown hg3
  have hgv' := own_ne hO hr1
  have hO2 : H.OwnZ (W1.setCell ⟨g, 13, none⟩ v') w.heap.size v' (x.blocks ++ [k]) := ownsRow_kept0 hO fun j hj => f2.block j (World.ownsRow.lt hO j hj).2 fun q => hgv' (by rw [← q]; exact hj)
  have hmv' := own_nm hO2 hm2
  refine h.turn (mb' := mb) (v' := v') (T := LHas g mb v) ?_ (fun _ q => q) ⟨?_, by rw [lastM_change]; exact hm3, ?_⟩ fun j hj => ?_
  · refine (((Fr.alloc (LHas g mb v) W _).trans (Fr.ofGrown hg1) fun _ _ q => .inr (.inr q)).trans f2 fun _ _ q => .inl q).trans f3 fun j _ q => .inr (.inl ?_)
    injection q with q
    exact q.symm
  · refine (f3.block g (Nat.lt_of_lt_of_le hlt1 f2.size) fun q => hgm (by injection q with q; exact q.symm)).trans (hr2.trans ?_)
    rfl
  · unfold changeL
    simp only
    rw [if_pos hl]
    exact ownsRow_kept0 hO2 fun j hj => f3.block j (World.ownsRow.lt hO2 j hj).2 fun q => hmv' (by injection q with q; rw [q]; exact hj)
  · rcases hj with q | q | q
    · exact .inl (.inl q)
    · exact .inl (.inr (.inl q))
    · rcases hat with e | e
      · exact .inl (.inr (.inr (by rw [← e]; exact q)))
      · rw [e] at q; injection q with q; exact .inr (by omega)
set_option maxRecDepth 20000 in
theorem LS.changeNew (h : LS w W g d c mb v x s t os ks) {k n : Int} (hk : inTop k) (hl : x.last k = none) (hn : x.blocks.length ≤ 1048576) : Calls Tryz.prog 154 #[.pointer (some ⟨g, 13, none⟩), .int .i64 k, .int .i64 n] W fun e W' => e = .returned (.tuple #[]) ∧ LogSit w W' g d (changeL x k n) s t ks := by
  have c13 := h.log.c13
  have c14 := h.log.c14
  have hM := h.log.map
  have z3 := z3i
  have hW := hk.wf
  have hsz := h.sit.below.size
  have hOwn := h.log.own
  have HA : Hid (∀ v' W1, (W.alloc (.cells #[.int .i64 k] 3)).grownBy W1 v.ownBlock → W1.heap[g]? = some (.cells (lgRow g d c mb v x) 67) ∧ MapIs Tryz.prog 3 (W1.setCell ⟨g, 13, none⟩ v') mb (lastM x)) := fun v' W1 hg1 => by
    have hgv := h.log.gv
    have hgm := h.log.gm
    have hmv := h.log.mv
    have h1 := H.pushed_kept hg1 (fun j hj q => hgv (by rw [← q]; exact hj)) h.log.row
    refine ⟨h1, hM.kept ?_⟩
    have hmlt := hM.lt
    rw [(Fr.setCell W1 g 13 v').block mb (Nat.lt_of_lt_of_le hmlt (Nat.le_trans (by simp) hg1.size)) fun q => hgm q.symm]
    obtain ⟨es, cl, h2⟩ := hM.isMap
    rw [H.pushed_kept hg1 (fun j hj q => hmv (by rw [← q]; exact hj)) h2, h2]
  have HB : Hid (∀ v' W1 W3, H.OwnZ W1 w.heap.size v' (x.blocks ++ [k]) → (W.alloc (.cells #[.int .i64 k] 3)).grownBy W1 v.ownBlock → (v'.ownBlock = v.ownBlock ∨ v'.ownBlock = some (W.heap.size + 1)) → MapIs Tryz.prog 3 W3 mb (fun y => if y = k then some (.int .i64 n) else lastM x y) → (W1.setCell ⟨g, 13, none⟩ v').grownBy W3 (some mb) → LogSit w W3 g d (changeL x k n) s t ks) := fun v' W1 W3 hO hg1 hat hm3 hg3 =>
    h.changed hl hO hg1 hat (HA.out v' W1 hg1).1 (HA.out v' W1 hg1).2 hm3 hg3
  have HI : Hid (inTop k) := hk
  have hv : lastM x k = none := by unfold lastM; rw [hl]; rfl
  clear h hk
  go_enter Tryz.func154, Tryz.ntmps154
  go_wp2_with (first | refine wpList_lookM_none rfl (.tmp 12) (.tmp 13) 63 rfl 3 Tryz.underlying3 keyed3 Tryz.underlying63 rfl hM (z3 _) k hW rfl hv ?_ | (refine wpList_pushAt rfl (.tmp 23) (.tmp 25) rfl w.heap.size v x.blocks k rfl rfl hOwn hn hsz ?_))
  intro v' W1 hO1 hg1 hat
  obtain ⟨hr1, hm1⟩ := HA.out v' W1 hg1
  have HB1 : Hid (∀ W3, MapIs Tryz.prog 3 W3 mb (fun y => if y = k then some (.int .i64 n) else lastM x y) → (W1.setCell ⟨g, 13, none⟩ v').grownBy W3 (some mb) → LogSit w W3 g d (changeL x k n) s t ks) := fun W3 => HB.out v' W1 W3 hO1 hg1 hat
  obtain ⟨p', cp', hv', _, _, _⟩ := hO1.ints
  have c13' : W1.cell? ⟨g, 13, none⟩ = some v := Joins.cell_of_block hr1 13
  have c14' : W1.cell? ⟨g, 14, none⟩ = some (.map (some mb)) := Joins.cell_of_block hr1 14
  have f13 := Joins.unfrozen_of_block hr1 13
  clear hr1 hg1 hO1 hat HA HB hM c13 c14 hOwn hsz
  simp only [List.length_append, List.length_cons, List.length_nil, Nat.zero_add] at hv'
  subst hv'
  go_wp2_with (first | (refine wpList_putM rfl (.tmp 32) (.tmp 33) (.tmp 34) 63 rfl 3 Tryz.underlying3 keyed3 Tryz.underlying63 mb _ rfl hm1 k HI.out rfl _ rfl ?_))
  intro W3 hm3 hg3
  have HR : Hid (LogSit w W3 g d (changeL x k n) s t ks) := HB1.out W3 hm3 hg3
  clear hm3 hg3 HB1 hm1
  go_wp2
  go_end0
  exact ⟨rfl, HR.out⟩
end Go.Proofs.YtiejhjngcnkimaaGreatRW
/- What holds of every log that lives, told by its book; no condition. -/
namespace Go.Proofs.YtiejhjngcnkimaaGreatRW
open Go.RowKit Go.Maps
variable {w W : World} {g d c mb : Nat} {v : Value} {x : LSt} {s : CSt} {t : St} {os ks : List (Nat × Obj)} {base : Nat} {book : Int → Nat → Int}
def inB (x : LSt) : Int → Bool := fun k => decide (k ∈ x.blocks)
structure Inv (x : LSt) (s : CSt) (t : St) (book : Int → Nat → Int) : Prop where
  fine : H.Fine x.b x.l x.i
  c : CInv x.b x.l s t book (inB x)
  nd : x.blocks.Nodup
  rng : ∀ k ∈ x.blocks, 1 + x.l ≤ k ∧ k < x.b
  fast : (fastN s.row : Int) = x.blocks.length
  last : ∀ k, x.last k = none ↔ k ∉ x.blocks
  len : (x.blocks.length : Int) ≤ x.l - 1
  steps : 0 ≤ x.steps ∧ x.steps ≤ 1099511627776
  commits : 0 ≤ x.commits ∧ x.commits ≤ 1099511627776
  room : 0 ≤ x.room ∧ x.room ≤ 256
  more : x.opn = true → (x.blocks.length : Int) + x.room ≤ x.l - 1
def LogI (w W : World) (g d : Nat) (x : LSt) (t : St) (book : Int → Nat → Int) (ks : List (Nat × Obj)) : Prop := ∃ s, LogSit w W g d x s t ks ∧ Inv x s t book
theorem LS.add (h : LS w W g d c mb v x s t os ks) (o : Obj) : LS w (W.alloc o) g d c mb v x s t os ((W.heap.size, o) :: ks) := by
  refine ⟨(h.sit.add o).drop fun p hp => ?_, h.log.later (below_new W o), h.own, fun p hp => ?_⟩
  · rcases List.mem_append.1 hp with hp | hp
    · exact List.mem_cons_of_mem _ (List.mem_append.2 (.inl hp))
    · rcases List.mem_cons.1 hp with rfl | hp
      · exact List.mem_cons_self ..
      · exact List.mem_cons_of_mem _ (List.mem_append.2 (.inr hp))
  · rcases List.mem_cons.1 hp with rfl | hp
    · intro q
      have := h.log.lt _ q
      simp only at this
      omega
    · exact h.ap p hp
theorem LS.drop (h : LS w W g d c mb v x s t os ks) {ks' : List (Nat × Obj)} (hs : ∀ p ∈ ks', p ∈ ks) : LS w W g d c mb v x s t os ks' :=
  ⟨h.sit.drop fun p hp => by
    rcases List.mem_append.1 hp with hp | hp
    · exact List.mem_append.2 (.inl hp)
    · exact List.mem_append.2 (.inr (hs p hp)), h.log, h.own, fun p hp => h.ap p (hs p hp)⟩
theorem LogSit.later {W' : World} (h : LogSit w W g d x s t ks) (hb : Below W.heap.size W W') : LogSit w W' g d x s t ks := by
  obtain ⟨c, mb, v, os, h⟩ := h
  exact ⟨c, mb, v, os, h.later hb⟩
theorem LogSit.add (h : LogSit w W g d x s t ks) (o : Obj) : LogSit w (W.alloc o) g d x s t ((W.heap.size, o) :: ks) := by
  obtain ⟨c, mb, v, os, h⟩ := h
  exact ⟨c, mb, v, os, h.add o⟩
theorem LogSit.drop (h : LogSit w W g d x s t ks) {ks' : List (Nat × Obj)} (hs : ∀ p ∈ ks', p ∈ ks) : LogSit w W g d x s t ks' := by
  obtain ⟨c, mb, v, os, h⟩ := h
  exact ⟨c, mb, v, os, h.drop hs⟩
theorem LogSit.obj (h : LogSit w W g d x s t ks) {q : Nat} {o : Obj} (hm : (q, o) ∈ ks) : W.heap[q]? = some o := by
  obtain ⟨c, mb, v, os, h⟩ := h
  exact h.sit.blk (List.mem_append.2 (.inr hm))
theorem LogSit.below (h : LogSit w W g d x s t ks) : Below w.heap.size w W := by
  obtain ⟨c, mb, v, os, h⟩ := h
  exact h.sit.below
theorem LogSit.ok (h : LogSit w W g d x s t ks) : COk s ∧ Ok t := by
  obtain ⟨c, mb, v, os, h⟩ := h
  exact h.sit.ok
theorem LogI.later {W' : World} (h : LogI w W g d x t book ks) (hb : Below W.heap.size W W') : LogI w W' g d x t book ks := by
  obtain ⟨s, h1, h2⟩ := h
  exact ⟨s, h1.later hb, h2⟩
theorem LogI.add (h : LogI w W g d x t book ks) (o : Obj) : LogI w (W.alloc o) g d x t book ((W.heap.size, o) :: ks) := by
  obtain ⟨s, h1, h2⟩ := h
  exact ⟨s, h1.add o, h2⟩
theorem LogI.drop (h : LogI w W g d x t book ks) {ks' : List (Nat × Obj)} (hs : ∀ p ∈ ks', p ∈ ks) : LogI w W g d x t book ks' := by
  obtain ⟨s, h1, h2⟩ := h
  exact ⟨s, h1.drop hs, h2⟩
theorem LogI.obj (h : LogI w W g d x t book ks) {q : Nat} {o : Obj} (hm : (q, o) ∈ ks) : W.heap[q]? = some o := by
  obtain ⟨s, h1, h2⟩ := h
  exact h1.obj hm
theorem LogI.below (h : LogI w W g d x t book ks) : Below w.heap.size w W := by
  obtain ⟨s, h1, h2⟩ := h
  exact h1.below
theorem claimed_live {k : Int} (h : claimedV t k = true) : t.stopped = false := by
  unfold claimedV at h
  cases hs : t.stopped
  · rfl
  · rw [hs] at h; simp at h
theorem refL_live {o : Bool} (h : refL x t o = 0) : claimedV t x.claim = true ∧ x.opn = o := by
  unfold refL at h
  split at h
  · rename_i hc
    split at h
    · rename_i ho
      exact ⟨hc, ho⟩
    · omega
  · omega
theorem Inv.dat (h : Inv x s t book) {k : Int} (hk : 1 + x.l ≤ k ∧ k < x.b) : Dat x.b x.l k := by
  have := h.fine.1
  exact ⟨⟨by omega, hk.2⟩, fun q => by omega⟩
theorem Inv.used (h : Inv x s t book) (hs : t.stopped = false) {k : Int} (hk : Dat x.b x.l k) : usedE s t k = 0 := h.c.used hs hk (by have := h.fast; have := h.len; omega)
theorem Inv.change (h : Inv x s t book) {k n r : Int} {f : Nat → Int} (hs : t.stopped = false) (hk : 1 + x.l ≤ k ∧ k < x.b) (hn : k ∉ x.blocks → (x.blocks.length : Int) + 1 + r ≤ x.l - 1) (hr : 0 ≤ r ∧ r ≤ x.room) (hok : COk (putC s t k f)) :
    Inv { changeL x k n with room := r } (putC s t k f) t (fun j => if j = k then f else book j) := by
  have hD := h.dat hk
  obtain ⟨h1, h2⟩ := h.c.put hD (h.used hs hD) f hok
  have hr2 := h.room
  by_cases hm : k ∈ x.blocks
  · have hl : x.last k ≠ none := fun q => ((h.last k).1 q) hm
    have hbl : (changeL x k n).blocks = x.blocks := by unfold changeL; simp only; rw [if_neg hl]
    have hin : inB { changeL x k n with room := r } = fun j => if j = k then true else inB x j := by
      funext j
      unfold inB
      show decide (j ∈ (changeL x k n).blocks) = _
      rw [hbl]
      by_cases e : j = k
      · rw [if_pos e, e]; simpa using hm
      · rw [if_neg e]
    refine ⟨h.fine, ?_, ?_, ?_, ?_, ?_, ?_, h.steps, h.commits, ⟨hr.1, by show r ≤ 256; omega⟩, ?_⟩
    · rw [hin]; exact h1
    · show (changeL x k n).blocks.Nodup; rw [hbl]; exact h.nd
    · show ∀ j ∈ (changeL x k n).blocks, _; rw [hbl]; exact h.rng
    · show _ = ((changeL x k n).blocks.length : Int); rw [hbl, h2, if_pos (by unfold inB; simpa using hm)]; have := h.fast; omega
    · intro j
      show (if j = k then some n else x.last j) = none ↔ j ∉ (changeL x k n).blocks
      rw [hbl]
      by_cases e : j = k
      · rw [if_pos e, e]; simp [hm]
      · rw [if_neg e]; exact h.last j
    · show ((changeL x k n).blocks.length : Int) ≤ _; rw [hbl]; exact h.len
    · intro ho
      show ((changeL x k n).blocks.length : Int) + r ≤ _
      rw [hbl]
      have := h.more ho
      show (x.blocks.length : Int) + r ≤ x.l - 1
      omega
  · have hl : x.last k = none := (h.last k).2 hm
    have hbl : (changeL x k n).blocks = x.blocks ++ [k] := by unfold changeL; simp only; rw [if_pos hl]
    have hlen : ((changeL x k n).blocks.length : Int) = x.blocks.length + 1 := by rw [hbl]; simp
    have hn' := hn hm
    have hin : inB { changeL x k n with room := r } = fun j => if j = k then true else inB x j := by
      funext j
      unfold inB
      show decide (j ∈ (changeL x k n).blocks) = _
      rw [hbl]
      by_cases e : j = k
      · rw [if_pos e, e]; simp
      · rw [if_neg e]; simp [e]
    refine ⟨h.fine, ?_, ?_, ?_, ?_, ?_, ?_, h.steps, h.commits, ⟨hr.1, by show r ≤ 256; omega⟩, ?_⟩
    · rw [hin]; exact h1
    · show (changeL x k n).blocks.Nodup
      rw [hbl, List.nodup_append]
      refine ⟨h.nd, by simp, fun a ha b hb => ?_⟩
      simp only [List.mem_cons, List.not_mem_nil, or_false] at hb
      subst hb
      exact fun q => hm (q ▸ ha)
    · show ∀ j ∈ (changeL x k n).blocks, _
      rw [hbl]
      intro j hj
      rcases List.mem_append.1 hj with hj | hj
      · exact h.rng j hj
      · simp only [List.mem_cons, List.not_mem_nil, or_false] at hj
        subst hj
        exact hk
    · show _ = ((changeL x k n).blocks.length : Int)
      rw [hlen, h2, if_neg (by unfold inB; simpa using hm)]
      have := h.fast
      omega
    · intro j
      show (if j = k then some n else x.last j) = none ↔ j ∉ (changeL x k n).blocks
      rw [hbl]
      by_cases e : j = k
      · rw [if_pos e, e]; simp
      · rw [if_neg e, h.last j]; simp [e]
    · show ((changeL x k n).blocks.length : Int) ≤ x.l - 1
      omega
    · intro _
      show ((changeL x k n).blocks.length : Int) + r ≤ x.l - 1
      omega
end Go.Proofs.YtiejhjngcnkimaaGreatRW
