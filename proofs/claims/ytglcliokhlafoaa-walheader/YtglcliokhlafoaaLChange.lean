/- A block is changed by a step, and whether it was; blocks have numbers below 2 to the 20th, and there are at most as many. -/
import Derived.Test.YtglcliokhlafoaaLForget
namespace Go.Proofs.Ytglcliokhlafoaa
open Go.RowKit Go.Maps
variable {w W : World} {g d c mb : Nat} {v : Value} {x : LSt} {s : CSt} {t : St} {os ks : List (Nat × Obj)} {base : Nat}
def byB (x : LSt) (k n : Int) : Bool := x.last k == some n
theorem z3i (w : World) : (zeroValue 3).run Try.prog w = .ok (.int .i64 0) w := zero3 w
theorem LS.changedBy (h : LS w W g d c mb v x s t os ks) {k n : Int} (hk : inTop k) : Calls Try.prog 53 #[.pointer (some ⟨g, 13, none⟩), .int .i64 k, .int .i64 n] W fun e W' => e = .returned (.bool (byB x k n)) ∧ W' = W := by
  have c14 := h.log.c14
  have hM := h.log.map
  have z3 := z3i
  have hW := hk.wf
  clear h hk
  unfold byB
  cases hl : x.last k with
  | none =>
    have hv : lastM x k = none := by unfold lastM; rw [hl]; rfl
    go_enter Try.func53, Try.ntmps53
    go_wp2_with (first | refine wpList_lookM_none rfl (.tmp 13) (.tmp 14) 82 rfl 3 Try.underlying3 keyed3 Try.underlying82 rfl hM (z3 _) k hW rfl hv ?_)
    go_ret
    exact ⟨rfl, rfl⟩
  | some m =>
    have hv : lastM x k = some (.int .i64 m) := by unfold lastM; rw [hl]; rfl
    by_cases hm : m = n
    · subst hm
      go_enter Try.func53, Try.ntmps53
      go_wp2_with (first | refine wpList_lookM_some rfl (.tmp 13) (.tmp 14) 82 rfl 3 Try.underlying3 keyed3 Try.underlying82 rfl hM (z3 _) k hW rfl _ hv ?_)
      go_ret
      exact ⟨by simp, rfl⟩
    · go_enter Try.func53, Try.ntmps53
      go_wp2_with (first | refine wpList_lookM_some rfl (.tmp 13) (.tmp 14) 82 rfl 3 Try.underlying3 keyed3 Try.underlying82 rfl hM (z3 _) k hW rfl _ hv ?_)
      go_ret
      exact ⟨by simp, rfl⟩
def changeL (x : LSt) (k n : Int) : LSt := { x with blocks := if x.last k = none then x.blocks ++ [k] else x.blocks, last := fun y => if y = k then some n else x.last y }
theorem lastM_change (x : LSt) (k n : Int) : lastM (changeL x k n) = fun y => if y = k then some (.int .i64 n) else lastM x y := by
  funext y
  unfold lastM changeL
  simp only
  by_cases e : y = k
  · rw [if_pos e, if_pos e]; rfl
  · rw [if_neg e, if_neg e]
theorem LS.changeOld (h : LS w W g d c mb v x s t os ks) {k n : Int} (hk : inTop k) (hl : x.last k ≠ none) : Calls Try.prog 54 #[.pointer (some ⟨g, 13, none⟩), .int .i64 k, .int .i64 n] W fun e W' => e = .returned (.tuple #[]) ∧ LogSit w W' g d (changeL x k n) s t ks := by
  have c14 := h.log.c14
  have hM := h.log.map
  have z3 := z3i
  have hW := hk.wf
  have HH : Hid (∀ W', MapIs Try.prog 3 W' mb (fun y => if y = k then some (.int .i64 n) else lastM x y) → W.grownBy W' (some mb) → LogSit w W' g d (changeL x k n) s t ks) := fun W' h1 h2 => by
    have hf := Fr.ofGrown h2
    refine h.turn (mb' := mb) (v' := v) hf (fun j hj => .inr (.inl (by injection hj with hj; exact hj.symm))) ⟨?_, by rw [lastM_change]; exact h1, ?_⟩ fun _ q => .inl q
    · refine (hf.block g (h.log.lt g (.inl rfl)) fun q => h.log.gm ?_).trans ?_
      · injection q with q; exact q.symm
      · exact h.log.row
    · unfold changeL
      simp only
      rw [if_neg hl]
      exact ownsRow_kept0 h.log.own fun j hj => hf.block j (World.ownsRow.lt h.log.own j hj).2 fun q => h.log.mv (by injection q with q; rw [q]; exact hj)
  have HI : Hid (inTop k) := hk
  clear h hk
  obtain ⟨m, hm⟩ := Option.ne_none_iff_exists'.1 hl
  have hv : lastM x k = some (.int .i64 m) := by unfold lastM; rw [hm]; rfl
  go_enter Try.func54, Try.ntmps54
  go_wp2_with (first | refine wpList_lookM_some rfl (.tmp 12) (.tmp 13) 82 rfl 3 Try.underlying3 keyed3 Try.underlying82 rfl hM (z3 _) k hW rfl _ hv ?_ | (refine wpList_putM rfl (.tmp 32) (.tmp 33) (.tmp 34) 82 rfl 3 Try.underlying3 keyed3 Try.underlying82 mb _ rfl hM k HI.out rfl _ rfl ?_; intro W3 hm3 hg3; have HR : Hid (LogSit w W3 g d (changeL x k n) s t ks) := HH.out W3 hm3 hg3; clear hm3 hg3))
  go_end0
  exact ⟨rfl, HR.out⟩
section
variable {ops : Array Oper} {rest : List Oper} {o : Oper} {a : Act} {Q : Exit → Act → World → Prop}
theorem wpList_pushAt {W : World} (hgd : o.guard = none) (s x : Operand)
    (ho : o.op = .call { callee := .builtin .append, args := #[s, x], argTypes := #[40, 40] }) (base : Nat) (v : Value) (xs : List Int) (y : Int) (hs : a.eval s = v)
    (hx : a.eval x = .slice (some ⟨W.heap.size, 0, none⟩) 1 1) (hown : H.OwnZ W base v xs) (hn : xs.length ≤ 1048576) (hbase : base ≤ W.heap.size)
    (h : ∀ v' w', H.OwnZ w' base v' (xs ++ [y]) → (W.alloc (.cells #[.int .i64 y] 3)).grownBy w' v.ownBlock → (v'.ownBlock = v.ownBlock ∨ v'.ownBlock = some (W.heap.size + 1)) → wpList Try.prog ops Q rest (a.put o.dst v') w') :
    wpList Try.prog ops Q (o :: rest) a (W.alloc (.cells #[.int .i64 y] 3)) := by
  obtain ⟨i0, hi0, hz0, hz1, hz2⟩ := info_parts H.info3
  refine wpList_append_own_at _ hgd s x 40 ho base 3 i0 (.int .i64 0) 1 8 Try.underlying40 hi0 hz0 hz1 hz2 rfl (by decide) v xs.length (xs.map (Value.int .i64)) hs (World.ownsRow.alloc hown _) ⟨W.heap.size, 0, none⟩ 1 1 [.int .i64 y] hx rfl (cell_one_new _ _ _)
    (fun u hu => by simp at hu; subst hu; rfl) (by unfold maxLen; omega) (by omega) (by simp; omega) ?_
  intro v' w' hown' hg _ hat
  refine h v' w' ?_ hg (by simpa using hat)
  unfold H.OwnZ
  rw [List.length_append, List.map_append]
  exact hown'
end
theorem own_ne {v' : Value} {zs : List Int} {cs : Array Value} (h : H.OwnZ W base v' zs) (hr : W.heap[g]? = some (.cells cs 86)) : v'.ownBlock ≠ some g := by
  intro e
  rcases h.2 with q | ⟨g', cap, cur, rfl, hB, hg, rest⟩
  · rw [q.1] at e; cases e
  · cases e
    rw [hg] at hr
    injection hr with hr
    injection hr with _ hr
    cases hr
theorem own_nm {v' : Value} {zs : List Int} {m : Int → Option Value} (h : H.OwnZ W base v' zs) (hm : MapIs Try.prog 3 W mb m) : v'.ownBlock ≠ some mb := by
  intro e
  obtain ⟨es, cl, h1⟩ := hm.isMap
  rcases h.2 with q | ⟨g', cap, cur, rfl, hB, hg, rest⟩
  · rw [q.1] at e; cases e
  · cases e
    rw [hg] at h1
    cases h1
theorem LS.changed (h : LS w W g d c mb v x s t os ks) {k n : Int} (hl : x.last k = none) {v' : Value} {W1 W3 : World} (hO : H.OwnZ W1 w.heap.size v' (x.blocks ++ [k])) (hg1 : (W.alloc (.cells #[.int .i64 k] 3)).grownBy W1 v.ownBlock)
    (hat : v'.ownBlock = v.ownBlock ∨ v'.ownBlock = some (W.heap.size + 1)) (hr1 : W1.heap[g]? = some (.cells (lgRow g d c mb v x) 86)) (hm2 : MapIs Try.prog 3 (W1.setCell ⟨g, 13, none⟩ v') mb (lastM x))
    (hm3 : MapIs Try.prog 3 W3 mb (fun y => if y = k then some (.int .i64 n) else lastM x y)) (hg3 : (W1.setCell ⟨g, 13, none⟩ v').grownBy W3 (some mb)) : LogSit w W3 g d (changeL x k n) s t ks := by
  have hgm := h.log.gm
  have hlt1 := (Array.getElem?_eq_some_iff.1 hr1).1
  have hr2 := Joins.block_setCell (i := 13) hr1 v'
  have f2 := Fr.setCell W1 g 13 v'
  have f3 := Fr.ofGrown hg3
  have hgv' := own_ne hO hr1
  have hO2 : H.OwnZ (W1.setCell ⟨g, 13, none⟩ v') w.heap.size v' (x.blocks ++ [k]) := ownsRow_kept0 hO fun j hj => f2.block j (World.ownsRow.lt hO j hj).2 fun q => hgv' (by rw [← q]; exact hj)
  have hmv' := own_nm hO2 hm2
  refine h.turn (mb' := mb) (v' := v') (T := LHas g mb v) ?_ (fun _ q => q) ⟨?_, by rw [lastM_change]; exact hm3, ?_⟩ fun j hj => ?_
  · refine (((Fr.alloc (LHas g mb v) W _).trans (Fr.ofGrown hg1) fun _ _ q => .inr (.inr q)).trans f2 fun _ _ q => .inl q).trans f3 fun j _ q => .inr (.inl ?_)
    injection q with q
    exact q.symm
  · refine (f3.block g (Nat.lt_of_lt_of_le hlt1 f2.size) fun q => hgm (by injection q with q; exact q.symm)).trans (hr2.trans ?_)
    rfl
  · unfold changeL
    simp only
    rw [if_pos hl]
    exact ownsRow_kept0 hO2 fun j hj => f3.block j (World.ownsRow.lt hO2 j hj).2 fun q => hmv' (by injection q with q; rw [q]; exact hj)
  · rcases hj with q | q | q
    · exact .inl (.inl q)
    · exact .inl (.inr (.inl q))
    · rcases hat with e | e
      · exact .inl (.inr (.inr (by rw [← e]; exact q)))
      · rw [e] at q; injection q with q; exact .inr (by omega)
set_option maxRecDepth 20000 in
theorem LS.changeNew (h : LS w W g d c mb v x s t os ks) {k n : Int} (hk : inTop k) (hl : x.last k = none) (hn : x.blocks.length ≤ 1048576) : Calls Try.prog 54 #[.pointer (some ⟨g, 13, none⟩), .int .i64 k, .int .i64 n] W fun e W' => e = .returned (.tuple #[]) ∧ LogSit w W' g d (changeL x k n) s t ks := by
  have c13 := h.log.c13
  have c14 := h.log.c14
  have hM := h.log.map
  have z3 := z3i
  have hW := hk.wf
  have hsz := h.sit.below.size
  have hOwn := h.log.own
  have HA : Hid (∀ v' W1, (W.alloc (.cells #[.int .i64 k] 3)).grownBy W1 v.ownBlock → W1.heap[g]? = some (.cells (lgRow g d c mb v x) 86) ∧ MapIs Try.prog 3 (W1.setCell ⟨g, 13, none⟩ v') mb (lastM x)) := fun v' W1 hg1 => by
    have hgv := h.log.gv
    have hgm := h.log.gm
    have hmv := h.log.mv
    have h1 := H.pushed_kept hg1 (fun j hj q => hgv (by rw [← q]; exact hj)) h.log.row
    refine ⟨h1, hM.kept ?_⟩
    have hmlt := hM.lt
    rw [(Fr.setCell W1 g 13 v').block mb (Nat.lt_of_lt_of_le hmlt (Nat.le_trans (by simp) hg1.size)) fun q => hgm q.symm]
    obtain ⟨es, cl, h2⟩ := hM.isMap
    rw [H.pushed_kept hg1 (fun j hj q => hmv (by rw [← q]; exact hj)) h2, h2]
  have HB : Hid (∀ v' W1 W3, H.OwnZ W1 w.heap.size v' (x.blocks ++ [k]) → (W.alloc (.cells #[.int .i64 k] 3)).grownBy W1 v.ownBlock → (v'.ownBlock = v.ownBlock ∨ v'.ownBlock = some (W.heap.size + 1)) → MapIs Try.prog 3 W3 mb (fun y => if y = k then some (.int .i64 n) else lastM x y) → (W1.setCell ⟨g, 13, none⟩ v').grownBy W3 (some mb) → LogSit w W3 g d (changeL x k n) s t ks) := fun v' W1 W3 hO hg1 hat hm3 hg3 =>
    h.changed hl hO hg1 hat (HA.out v' W1 hg1).1 (HA.out v' W1 hg1).2 hm3 hg3
  have HI : Hid (inTop k) := hk
  have hv : lastM x k = none := by unfold lastM; rw [hl]; rfl
  clear h hk
  go_enter Try.func54, Try.ntmps54
  go_wp2_with (first | refine wpList_lookM_none rfl (.tmp 12) (.tmp 13) 82 rfl 3 Try.underlying3 keyed3 Try.underlying82 rfl hM (z3 _) k hW rfl hv ?_ | (refine wpList_pushAt rfl (.tmp 23) (.tmp 25) rfl w.heap.size v x.blocks k rfl rfl hOwn hn hsz ?_))
  intro v' W1 hO1 hg1 hat
  obtain ⟨hr1, hm1⟩ := HA.out v' W1 hg1
  have HB1 : Hid (∀ W3, MapIs Try.prog 3 W3 mb (fun y => if y = k then some (.int .i64 n) else lastM x y) → (W1.setCell ⟨g, 13, none⟩ v').grownBy W3 (some mb) → LogSit w W3 g d (changeL x k n) s t ks) := fun W3 => HB.out v' W1 W3 hO1 hg1 hat
  obtain ⟨p', cp', hv', _, _, _⟩ := hO1.ints
  have c13' : W1.cell? ⟨g, 13, none⟩ = some v := Joins.cell_of_block hr1 13
  have c14' : W1.cell? ⟨g, 14, none⟩ = some (.map (some mb)) := Joins.cell_of_block hr1 14
  have f13 := Joins.unfrozen_of_block hr1 13
  clear hr1 hg1 hO1 hat HA HB hM c13 c14 hOwn hsz
  simp only [List.length_append, List.length_cons, List.length_nil, Nat.zero_add] at hv'
  subst hv'
  go_wp2_with (first | (refine wpList_putM rfl (.tmp 32) (.tmp 33) (.tmp 34) 82 rfl 3 Try.underlying3 keyed3 Try.underlying82 mb _ rfl hm1 k HI.out rfl _ rfl ?_))
  intro W3 hm3 hg3
  have HR : Hid (LogSit w W3 g d (changeL x k n) s t ks) := HB1.out W3 hm3 hg3
  clear hm3 hg3 HB1 hm1
  go_wp2
  go_end0
  exact ⟨rfl, HR.out⟩
end Go.Proofs.Ytglcliokhlafoaa
