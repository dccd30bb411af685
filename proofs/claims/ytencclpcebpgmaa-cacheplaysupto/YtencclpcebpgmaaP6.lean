/- Several texts joined, each with its own remark; no condition. -/
import Derived.Test.YtencclpcebpgmaaP5
import Derived.Deep.LoopGhost
/- A cache beside its disk; what it tells of itself, and whom it refuses; no condition. -/
namespace Go.Proofs.Ytencclpcebpgmaa
open Go.RowKit Go.Maps

/-- What holds of every cache. -/
structure COk (s : CSt) : Prop where
  size : 1 ≤ s.size ∧ s.size ≤ 4096
  len : (s.row.length : Int) ≤ s.size
  pos : ∀ h ∈ s.row, inTop h.pos ∧ Can h.dat
  nodup : (s.row.map (·.pos)).Nodup
def ckRow (K : KLoc) (s : CSt) : Array Value := #[ptr K.c, ptr K.d, .int .i64 s.size, .map (some K.mb), ptr K.e, .int .i64 (fastN s.row : Int)]
structure CacheAt (w : World) (K : KLoc) (s : CSt) : Prop where
  row : w.heap[K.c]? = some (.cells (ckRow K s) 73)
  map : MapIs Try.prog 3 w K.mb (mapV K.M K.ns)
  nodes : Nodes w K.M (fun g => g = K.e ∨ g ∈ K.ns)
  ring : seg (Lnk K.M) K.e K.ns K.e
  nd : (K.e :: K.ns).Nodup
  holds : s.row = K.ns.map (hld K.M)
  ok : COk s
variable {w : World} {K : KLoc} {s : CSt}
theorem CacheAt.len (h : CacheAt w K s) : s.row.length = K.ns.length := by rw [h.holds]; simp
theorem CacheAt.posNd (h : CacheAt w K s) : (K.ns.map (posOf K.M)).Nodup := by
  have := h.ok.nodup
  rw [h.holds, List.map_map] at this
  exact this
theorem CacheAt.lt (h : CacheAt w K s) (k : Nat) (hk : K.has k) : k < w.heap.size := by
  rcases hk with rfl | rfl | hk
  · exact (Array.getElem?_eq_some_iff.1 h.row).1
  · exact h.map.lt
  · exact (Array.getElem?_eq_some_iff.1 (h.nodes k hk)).1
theorem CacheAt.kept {w' : World} (h : CacheAt w K s) (hb : ∀ k, K.has k → w'.heap[k]? = w.heap[k]?) : CacheAt w' K s :=
  ⟨(hb _ (.inl rfl)).trans h.row, h.map.kept (hb _ (.inr (.inl rfl))), h.nodes.kept fun g hg => hb g (.inr (.inr hg)), h.ring, h.nd, h.holds, h.ok⟩
theorem CacheAt.fr {w' : World} {T : Nat → Prop} (h : CacheAt w K s) (hf : Fr T w w') (hT : ∀ k, K.has k → ¬ T k) : CacheAt w' K s :=
  h.kept fun k hk => hf.block k (h.lt k hk) (hT k hk)
theorem CacheAt.cell (h : CacheAt w K s) (i : Nat) : w.cell? ⟨K.c, i, none⟩ = (ckRow K s)[i]? := Joins.cell_of_block h.row i
theorem CacheAt.free (h : CacheAt w K s) (i : Nat) : w.frozen? ⟨K.c, i, none⟩ = false := Joins.unfrozen_of_block h.row i
theorem CacheAt.c0 (h : CacheAt w K s) : w.cell? ⟨K.c, 0, none⟩ = some (ptr K.c) := h.cell 0
theorem CacheAt.c1 (h : CacheAt w K s) : w.cell? ⟨K.c, 1, none⟩ = some (ptr K.d) := h.cell 1
theorem CacheAt.c2 (h : CacheAt w K s) : w.cell? ⟨K.c, 2, none⟩ = some (.int .i64 s.size) := h.cell 2
theorem CacheAt.c3 (h : CacheAt w K s) : w.cell? ⟨K.c, 3, none⟩ = some (.map (some K.mb)) := h.cell 3
theorem CacheAt.c4 (h : CacheAt w K s) : w.cell? ⟨K.c, 4, none⟩ = some (ptr K.e) := h.cell 4
theorem CacheAt.c5 (h : CacheAt w K s) : w.cell? ⟨K.c, 5, none⟩ = some (.int .i64 (fastN s.row : Int)) := h.cell 5
theorem CacheAt.cne (h : CacheAt w K s) {g : Nat} (hg : g = K.e ∨ g ∈ K.ns) : g ≠ K.c := by
  rintro rfl
  have h1 := h.nodes _ hg
  have h2 := h.row
  unfold RowAt at h1
  rw [h2] at h1
  injection h1 with h1
  injection h1 with _ h1
  cases h1
theorem CacheAt.mne (h : CacheAt w K s) {g : Nat} (hg : g = K.e ∨ g ∈ K.ns) : g ≠ K.mb := by
  rintro rfl
  have h1 := h.nodes _ hg
  obtain ⟨es, cl, h2⟩ := h.map.isMap
  unfold RowAt at h1
  rw [h2] at h1
  cases h1
theorem CacheAt.cm (h : CacheAt w K s) : K.c ≠ K.mb := by
  intro e
  have h1 := h.row
  obtain ⟨es, cl, h2⟩ := h.map.isMap
  rw [e, h2] at h1
  cases h1
/-- A cache beside its disk. -/
structure CD (w : World) (K : KLoc) (L : Loc) (s : CSt) (t : St) : Prop where
  cache : CacheAt w K s
  disk : DiskAt w L t
  d : K.d = L.d
  apart : ∀ k, K.has k → ¬ L.has k
structure GoesC (w w' : World) (K : KLoc) (L : Loc) (K' : KLoc) (L' : Loc) : Prop where
  c : K'.c = K.c
  d : L'.d = L.d
  ownK : ∀ k, K'.has k → K.has k ∨ w.heap.size ≤ k
  ownL : ∀ k, L'.has k → L.has k ∨ w.heap.size ≤ k
  fr : Fr (fun k => K.has k ∨ L.has k) w w'
theorem GoesC.refl (w : World) (K : KLoc) (L : Loc) : GoesC w w K L K L := ⟨rfl, rfl, fun _ h => .inl h, fun _ h => .inl h, Fr.refl _ _⟩
theorem GoesC.ofBelow {w w' : World} (K : KLoc) (L : Loc) (h : Below w.heap.size w w') : GoesC w w' K L K L := ⟨rfl, rfl, fun _ h => .inl h, fun _ h => .inl h, Fr.ofBelow h⟩
theorem GoesC.trans {a b c : World} {K K' K'' : KLoc} {L L' L'' : Loc} (h : GoesC a b K L K' L') (k : GoesC b c K' L' K'' L'') : GoesC a c K L K'' L'' := by
  have hs := h.fr.size
  refine ⟨k.c.trans h.c, k.d.trans h.d, fun i hi => ?_, fun i hi => ?_, h.fr.trans k.fr fun i hi hk => ?_⟩
  · rcases k.ownK i hi with h1 | h1
    · exact h.ownK i h1
    · exact .inr (by omega)
  · rcases k.ownL i hi with h1 | h1
    · exact h.ownL i h1
    · exact .inr (by omega)
  · rcases hk with hk | hk
    · rcases h.ownK i hk with h1 | h1
      · exact .inl h1
      · omega
    · rcases h.ownL i hk with h1 | h1
      · exact .inr h1
      · omega
theorem CD.later {L : Loc} {t : St} {w' : World} (h : CD w K L s t) (hb : Below w.heap.size w w') : CD w' K L s t :=
  ⟨h.cache.kept fun k hk => hb.block k (h.cache.lt k hk), h.disk.later hb, h.d, h.apart⟩
/-- The disk alone has turned. -/
theorem CD.disks {L L' : Loc} {t t' : St} {w' : World} (h : CD w K L s t) (hD : DiskAt w' L' t') (hG : Goes w w' L L') : CD w' K L' s t' ∧ GoesC w w' K L K L' := by
  refine ⟨⟨h.cache.fr hG.fr h.apart, hD, h.d.trans hG.d.symm, fun k hk hl => ?_⟩, ⟨rfl, hG.d, fun _ q => .inl q, hG.own, hG.fr.mono fun _ _ q => .inr q⟩⟩
  rcases hG.own k hl with q | q
  · exact h.apart k hk q
  · have := h.cache.lt k hk; omega
/-- The cache alone has turned. -/
theorem CD.caches {K' : KLoc} {L : Loc} {t : St} {s' : CSt} {w' : World} (h : CD w K L s t) (hC : CacheAt w' K' s') (hc : K'.c = K.c) (hd : K'.d = K.d) (ho : ∀ k, K'.has k → K.has k ∨ w.heap.size ≤ k) (hf : Fr K.has w w') :
    CD w' K' L s' t ∧ GoesC w w' K L K' L := by
  refine ⟨⟨hC, h.disk.fr hf fun k hk hl => h.apart k hl hk, hd.trans h.d, fun k hk hl => ?_⟩, ⟨hc, rfl, ho, fun _ q => .inl q, hf.mono fun _ _ q => .inl q⟩⟩
  rcases ho k hk with q | q
  · exact h.apart k q hl
  · have := h.disk.lt k hl; omega
theorem info73 : ∃ j, Try.prog.info? 73 = some j := Option.isSome_iff_exists.1 (by kernel_rfl)
theorem neq30 (w : World) (a : Addr) : (binOp .neq 30 (.pointer (some a)) (.pointer (some a))).run Try.prog w = .ok (.bool false) w := by
  obtain ⟨j, hj⟩ := info73
  exact neq_same w a Try.underlying30 hj
theorem neq30n (w : World) (a : Addr) : (binOp .neq 30 (.pointer none) (.pointer (some a))).run Try.prog w = .ok (.bool true) w := neq_nil w a Try.underlying30
theorem noneC_yes {v : Value} (h : NoneAt w v) : Calls Try.prog 55 #[v] w fun e w' => e = .returned (.bool true) ∧ w' = w := by
  have hn := neq30n
  rcases h with rfl | ⟨g, rfl, c0⟩
  · go_enter Try.func55, Try.ntmps55
    go_wp2
    go_ret
    exact ⟨rfl, rfl⟩
  · go_enter Try.func55, Try.ntmps55
    go_wp2
    go_ret
    exact ⟨rfl, rfl⟩
theorem noneC_no {c : Nat} (c0 : w.cell? ⟨c, 0, none⟩ = some (ptr c)) : Calls Try.prog 55 #[ptr c] w fun e w' => e = .returned (.bool false) ∧ w' = w := by
  have hn := neq30
  unfold ptr at *
  go_enter Try.func55, Try.ntmps55
  go_wp2
  go_ret
  exact ⟨rfl, rfl⟩
theorem fast_of (h : CacheAt w K s) : Calls Try.prog 27 #[ptr K.c] w fun e w' => e = .returned (.int .i64 (fastN s.row : Int)) ∧ w' = w := by
  have h0 := noneC_no h.c0
  have c5 := h.c5
  clear h
  unfold ptr at *
  go_enter Try.func27, Try.ntmps27
  go_wp2_with (first | (go_at_call 55; refine h0.mono ?_; rintro e W ⟨rfl, rfl⟩))
  go_ret
  exact ⟨rfl, rfl⟩
theorem fast_none {v : Value} (h : NoneAt w v) : Calls Try.prog 27 #[v] w fun e w' => e = .returned (.int .i64 0) ∧ w' = w := by
  have h0 := noneC_yes h
  go_enter Try.func27, Try.ntmps27
  go_wp2_with (first | (go_at_call 55; refine h0.mono ?_; rintro e W ⟨rfl, rfl⟩))
  go_ret
  exact ⟨rfl, rfl⟩
theorem lenC_none {v : Value} (h : NoneAt w v) : Calls Try.prog 29 #[v] w fun e w' => e = .returned (.int .i64 0) ∧ w' = w := by
  have h0 := noneC_yes h
  go_enter Try.func29, Try.ntmps29
  go_wp2_with (first | (go_at_call 55; refine h0.mono ?_; rintro e W ⟨rfl, rfl⟩))
  go_ret
  exact ⟨rfl, rfl⟩
theorem orderC_none {v : Value} (h : NoneAt w v) : Calls Try.prog 31 #[v] w fun e w' => e = .returned (.slice none 0 0) ∧ w' = w := by
  have h0 := noneC_yes h
  go_enter Try.func31, Try.ntmps31
  go_wp2_with (first | (go_at_call 55; refine h0.mono ?_; rintro e W ⟨rfl, rfl⟩))
  go_ret
  exact ⟨rfl, rfl⟩
theorem CacheAt.size_is (h : CacheAt w K s) : ∃ D, w.ownsMap Try.prog 3 valElem K.mb top D ∧ Views D (mapV K.M K.ns) ∧ Maps.size D = s.row.length := by
  obtain ⟨D, h1, h2⟩ := h.map
  exact ⟨D, h1, h2, by rw [h.len]; exact map_size h.posNd h1 h2⟩
theorem len_of_cache (h : CacheAt w K s) : Calls Try.prog 29 #[ptr K.c] w fun e w' => e = .returned (.int .i64 (s.row.length : Int)) ∧ w' = w := by
  have h0 := noneC_no h.c0
  have c3 := h.c3
  obtain ⟨D, hown, _, hsz⟩ := h.size_is
  clear h
  unfold ptr at *
  go_enter Try.func29, Try.ntmps29
  go_wp2_with (first | (go_at_call 55; refine h0.mono ?_; rintro e W ⟨rfl, rfl⟩) | (refine wpList_len_own _ rfl (.tmp 8) 70 rfl 3 71 Try.underlying70 valElem K.mb top D rfl hown ?_))
  go_ret
  exact ⟨rfl, rfl⟩
/-- Whom a cache refuses. -/
theorem refusesC_of {L : Loc} {t : St} (h : CD w K L s t) (k : Int) : Calls Try.prog 54 #[ptr K.c, .int .i64 k] w fun e w' => e = .returned (.int .i64 (refV t k)) ∧ w' = w := by
  have h0 := noneC_no h.cache.c0
  have c1 := h.cache.c1
  have hs := stopped_of h.disk
  have hl := len_of h.disk
  rw [h.d] at c1
  clear h
  unfold ptr at *
  unfold refV
  cases hst : t.stopped
  · rw [hst] at hs
    by_cases h1 : k < 0
    · rw [if_neg (by simp), if_neg (by omega)]
      go_enter Try.func54, Try.ntmps54
      go_wp2_with (first | (go_at_call 55; refine h0.mono ?_; rintro e W ⟨rfl, rfl⟩) | (go_at_call 17; refine hs.mono ?_; rintro e W ⟨rfl, rfl⟩) | (go_at_call 41; refine hl.mono ?_; rintro e W ⟨rfl, rfl⟩))
      go_ret
      exact ⟨rfl, rfl⟩
    · by_cases h2 : t.n ≤ k
      · rw [if_neg (by simp), if_neg (by omega)]
        go_enter Try.func54, Try.ntmps54
        go_wp2_with (first | (go_at_call 55; refine h0.mono ?_; rintro e W ⟨rfl, rfl⟩) | (go_at_call 17; refine hs.mono ?_; rintro e W ⟨rfl, rfl⟩) | (go_at_call 41; refine hl.mono ?_; rintro e W ⟨rfl, rfl⟩))
        go_ret
        exact ⟨rfl, rfl⟩
      · rw [if_neg (by simp), if_pos (by omega)]
        go_enter Try.func54, Try.ntmps54
        go_wp2_with (first | (go_at_call 55; refine h0.mono ?_; rintro e W ⟨rfl, rfl⟩) | (go_at_call 17; refine hs.mono ?_; rintro e W ⟨rfl, rfl⟩) | (go_at_call 41; refine hl.mono ?_; rintro e W ⟨rfl, rfl⟩))
        go_ret
        exact ⟨rfl, rfl⟩
  · rw [hst] at hs
    rw [if_pos rfl]
    go_enter Try.func54, Try.ntmps54
    go_wp2_with (first | (go_at_call 55; refine h0.mono ?_; rintro e W ⟨rfl, rfl⟩) | (go_at_call 17; refine hs.mono ?_; rintro e W ⟨rfl, rfl⟩))
    go_ret
    exact ⟨rfl, rfl⟩
theorem refusesC_none {v : Value} (h : NoneAt w v) (k : Int) : Calls Try.prog 54 #[v, .int .i64 k] w fun e w' => e = .returned (.int .i64 1) ∧ w' = w := by
  have h0 := noneC_yes h
  go_enter Try.func54, Try.ntmps54
  go_wp2_with (first | (go_at_call 55; refine h0.mono ?_; rintro e W ⟨rfl, rfl⟩))
  go_ret
  exact ⟨rfl, rfl⟩
end Go.Proofs.Ytencclpcebpgmaa
/- A holding as it is made, and a cache as New makes it; no condition. -/
namespace Go.Proofs.Ytencclpcebpgmaa
open Go.RowKit Go.Maps

def nilp : Value := .pointer none
theorem info98 : (Try.prog.info? 98).map (fun i => (i.zero, i.size)) = some (some (.agg (rowV 0 false nilp nilp nought)), 1028) := by kernel_rfl
theorem zero98 : ∀ w, (zeroValue 98).run Try.prog w = .ok (.agg (rowV 0 false nilp nilp nought)) w := (zero_of_info info98).1
theorem size98 : (Try.prog.info? 98).map (·.size) = some 1028 := (zero_of_info info98).2
theorem built98 (u : World) : (Instr.build 98 #[]).run Try.prog u = .ok (.agg (rowV 0 false nilp nilp nought)) u := by
  have z := zero98
  generalize rowV 0 false nilp nilp nought = Z at *
  simp [Instr.build, z, run_underlying Try.underlying98, Instr.fill, Value.cells]
theorem rowV_set0 (k k' : Int) (b : Bool) (p q : Value) (f : Nat → Int) : (rowV k b p q f).setIfInBounds 0 (.int .i64 k') = rowV k' b p q f := by unfold rowV; rw [List.setIfInBounds_toArray]; rfl
theorem rowV_get2 (k : Int) (b : Bool) (p q : Value) (f : Nat → Int) : (rowV k b p q f)[2]? = some p := by
  unfold rowV
  generalize (blk f).toList = l
  rfl
theorem rowV_get3 (k : Int) (b : Bool) (p q : Value) (f : Nat → Int) : (rowV k b p q f)[3]? = some q := by
  unfold rowV
  generalize (blk f).toList = l
  rfl
theorem built98k (k : Int) (u : World) : (Instr.build 98 #[(0, .int .i64 k)]).run Try.prog u = .ok (.agg (rowV k false nilp nilp nought)) u := by
  have z := zero98
  have hs := rowV_set0 0 k false nilp nilp nought
  have hz := rowV_size 0 false nilp nilp nought
  have hne : rowV 0 false nilp nilp nought ≠ #[] := fun q => by rw [q] at hz; simp at hz
  generalize rowV 0 false nilp nilp nought = Z at *
  generalize rowV k false nilp nilp nought = Y at *
  simp [Instr.build, z, run_underlying Try.underlying98, Instr.fill, Value.cells, hs, hne]
section
variable {ops : Array Oper} {rest : List Oper} {o : Oper} {a : Act} {w : World} {Q : Exit → Act → World → Prop}
theorem wpList_build98 (hgd : o.guard = none) (ho : o.op = .build 98 #[]) {Z : Array Value}
    (hb : ∀ u, (Instr.build 98 #[]).run Try.prog u = .ok (.agg Z) u) (h : wpList Try.prog ops Q rest (a.put o.dst (.agg Z)) w) : wpList Try.prog ops Q (o :: rest) a w :=
  wpList_plain hgd fun _ hK => by
    have e : (execOp a.eval o).run Try.prog w = .ok (.value (.agg Z)) w := by
      unfold execOp
      simp only [ho, Array.map_empty, Sem.run_bind]
      simp only [hb, Result.andThen_ok, Sem.run_pure]
    unfold Oper.wp
    rw [e]
    exact hK _ _ h
theorem wpList_build98k (hgd : o.guard = none) (x : Operand) (ho : o.op = .build 98 #[(0, x)]) (k : Int) (hx : a.eval x = .int .i64 k) {Z : Array Value}
    (hb : ∀ u, (Instr.build 98 #[(0, .int .i64 k)]).run Try.prog u = .ok (.agg Z) u) (h : wpList Try.prog ops Q rest (a.put o.dst (.agg Z)) w) : wpList Try.prog ops Q (o :: rest) a w :=
  wpList_plain hgd fun _ hK => by
    have e : (execOp a.eval o).run Try.prog w = .ok (.value (.agg Z)) w := by simp [execOp, ho, hx, hb]
    unfold Oper.wp
    rw [e]
    exact hK _ _ h
end
variable {w : World} {L : Loc} {t : St}
def newK (w : World) (d : Nat) : KLoc := ⟨w.heap.size + 2, d, w.heap.size, w.heap.size + 1, [], fun _ => ⟨0, false, w.heap.size, w.heap.size, nought⟩⟩
def newC (size : Int) : CSt := ⟨size, []⟩
theorem newC_at {size : Int} (hs : 1 ≤ size ∧ size ≤ 4096) {Z : Array Value} (hZ : Z = rowV 0 false (ptr w.heap.size) (ptr w.heap.size) nought) :
    CacheAt (((w.alloc (.cells Z 98)).alloc (.map #[] 0)).alloc (.cells #[ptr (w.heap.size + 2), ptr L.d, .int .i64 size, .map (some (w.heap.size + 1)), ptr w.heap.size, .int .i64 0] 73)) (newK w L.d) (newC size) := by
  subst hZ
  have h1 := heap_alloc_new w (.cells (rowV 0 false (ptr w.heap.size) (ptr w.heap.size) nought) 98)
  have h2 := heap_alloc_new ((w.alloc (.cells (rowV 0 false (ptr w.heap.size) (ptr w.heap.size) nought) 98)).alloc (.map #[] 0)) (.cells #[ptr (w.heap.size + 2), ptr L.d, .int .i64 size, .map (some (w.heap.size + 1)), ptr w.heap.size, .int .i64 0] 73)
  have hm := MapIs.made (P := Try.prog) (k := 3) (w.alloc (.cells (rowV 0 false (ptr w.heap.size) (ptr w.heap.size) nought) 98))
  have e1 : ∀ (u : World) (x : Obj), (u.alloc x).heap.size = u.heap.size + 1 := fun u x => by simp
  rw [e1, e1] at h2
  rw [e1] at hm
  refine ⟨h2, ?_, ?_, ⟨rfl, rfl⟩, by simp [newK], rfl, ⟨hs, by simp [newC]; omega, by simp [newC], by simp [newC]⟩⟩
  · exact hm.kept ((below_new _ _).block _ (by simp))
  · rintro g (rfl | hg)
    · exact heap_kept (heap_kept h1 (below_new _ _)) (below_new _ _)
    · simp [newK] at hg
set_option maxHeartbeats 1000000 in
theorem newC_ok (hD : DiskAt w L t) {size : Int} (hs : 1 ≤ size ∧ size ≤ 4096) :
    Calls Try.prog 11 #[ptr L.d, .int .i64 size] w fun e w' => e = .returned (.tuple #[ptr (newK w L.d).c, .int .i64 0]) ∧ CacheAt w' (newK w L.d) (newC size) ∧ Below w.heap.size w w' := by
  have hl := len_of hD
  have hn := hD.ok.n
  have hb := built98
  have hmm := @run_makeMap Try.prog
  have hz0 : ¬ t.n = 0 := by omega
  have s2 := rowV_set2 0 false nilp nilp (ptr w.heap.size) nought
  have s3 := rowV_set3 0 false (ptr w.heap.size) nilp (ptr w.heap.size) nought
  have g2 := rowV_get2 0 false nilp nilp nought
  have g3 := rowV_get3 0 false (ptr w.heap.size) nilp nought
  have HA : Hid (∀ Z, Z = rowV 0 false (ptr w.heap.size) (ptr w.heap.size) nought → CacheAt (((w.alloc (.cells Z 98)).alloc (.map #[] 0)).alloc (.cells #[ptr (w.heap.size + 2), ptr L.d, .int .i64 size, .map (some (w.heap.size + 1)), ptr w.heap.size, .int .i64 0] 73)) (newK w L.d) (newC size)) := fun Z hZ => newC_at hs hZ
  clear hD
  generalize h0 : rowV 0 false nilp nilp nought = Z at *
  generalize h1 : rowV 0 false (ptr w.heap.size) nilp nought = Z1 at *
  generalize h2 : rowV 0 false (ptr w.heap.size) (ptr w.heap.size) nought = Z2 at *
  have HZ := HA.out Z2 rfl
  have HB : Hid (CacheAt _ _ _) := HZ
  clear HZ HA h0 h1 h2
  unfold ptr nilp at *
  go_enter Try.func11, Try.ntmps11
  go_wp2_with (first | (go_at_call 41; refine hl.mono ?_; rintro e W ⟨rfl, rfl⟩) | refine wpList_build98 rfl rfl hb ?_)
  go_ret2
  refine ⟨rfl, HB.out, ?_⟩
  exact (((Below.refl _ _).alloc (Nat.le_refl _) _).alloc (by simp) _).alloc (by simp; omega) _
end Go.Proofs.Ytencclpcebpgmaa
/- A place is made in a cache: the first that is not held fast leaves; no condition. -/
namespace Go.Proofs.Ytencclpcebpgmaa
open Go.RowKit Go.Maps

def placeR (n : Int) (r : List Hld) : List Hld := if (r.length : Int) < n then r else r.eraseP (fun h => !h.fast)
theorem split_fast (M : Nat → Nd) : ∀ ns : List Nat, fastN (ns.map (hld M)) < ns.length → ∃ p g q, ns = p ++ g :: q ∧ (∀ a ∈ p, (M a).fast = true) ∧ (M g).fast = false
  | [], h => by simp [fastN] at h
  | a :: t, h => by
    cases ha : (M a).fast
    · exact ⟨[], a, t, rfl, by simp, ha⟩
    · have h' : fastN (t.map (hld M)) < t.length := by
        simp only [fastN, List.map_cons, List.countP_cons, List.length_cons, hld, ha, if_pos] at h ⊢
        omega
      obtain ⟨p, g, q, h1, h2, h3⟩ := split_fast M t h'
      refine ⟨a :: p, g, q, by rw [h1]; rfl, ?_, h3⟩
      intro x hx
      rcases List.mem_cons.1 hx with rfl | hx
      · exact ha
      · exact h2 x hx
theorem eraseP_split {α : Type} {f : α → Bool} {p q : List α} {x : α} (hp : ∀ a ∈ p, f a = false) (hx : f x = true) : (p ++ x :: q).eraseP f = p ++ q := by
  induction p with
  | nil => simp [hx]
  | cons a t ih =>
    have ha := hp a (by simp)
    simp only [List.cons_append, List.eraseP, ha]
    rw [ih fun b hb => hp b (List.mem_cons_of_mem _ hb)]
    rfl
/-- A holding is out of the row and out of the map. -/
theorem CacheAt.out {w w' : World} {K : KLoc} {s : CSt} (h : CacheAt w K s) {p q : List Nat} {g : Nat} (hns : K.ns = p ++ g :: q) {s' : CSt} (hsz : s'.size = s.size) (hrow : s'.row = (p ++ q).map (hld K.M))
    (hc : w'.heap[K.c]? = some (.cells (ckRow K s') 73)) (hm : MapIs Try.prog 3 w' K.mb (fun y => if y = posOf K.M g then none else mapV K.M K.ns y))
    (hN : Nodes w' (leaveM K.M g) (fun k => k = K.e ∨ k ∈ K.ns)) : CacheAt w' { K with ns := p ++ q, M := leaveM K.M g } s' := by
  have hpos : ∀ x, posOf (leaveM K.M g) x = posOf K.M x := fun x => (leave_rest K.M g x).1
  have hh : ∀ x, hld (leaveM K.M g) x = hld K.M x := fun x => by
    obtain ⟨a1, a2, a3⟩ := leave_rest K.M g x
    unfold hld
    rw [a1, a2, a3]
  have hsub : ∀ x, x ∈ p ++ q → x ∈ K.ns := fun x hx => by rw [hns]; simp at hx ⊢; rcases hx with h | h <;> simp [h]
  have hnd := h.nd
  rw [hns] at hnd
  have hsubl : (p ++ q).Sublist (p ++ g :: q) := List.Sublist.append_left (List.sublist_cons_self ..) _
  refine ⟨hc, ?_, hN.mono fun x hx => hx.imp id (hsub x), ?_, ?_, ?_, ?_⟩
  · rw [hns] at hm
    have := mapV_del (M := K.M) (M' := leaveM K.M g) (p := p) (q := q) (g := g) (by rw [← hns]; exact h.posNd) fun x _ => hpos x
    rw [this] at hm
    exact hm
  · exact leave_seg hnd (by rw [← hns]; exact h.ring)
  · exact hnd.sublist (hsubl.cons_cons K.e)
  · rw [hrow]
    exact List.map_congr_left fun x _ => (hh x).symm
  · have hrs : s'.row.Sublist s.row := by rw [hrow, h.holds, hns]; exact hsubl.map _
    refine ⟨by rw [hsz]; exact h.ok.size, ?_, fun x hx => h.ok.pos x (hrs.subset hx), h.ok.nodup.sublist (hrs.map _)⟩
    have := hrs.length_le
    have := h.ok.len
    rw [hsz]
    omega
variable {w : World} {K : KLoc} {s : CSt}
set_option maxRecDepth 20000 in
set_option maxHeartbeats 2000000 in
theorem place_of (h : CacheAt w K s) (hf : (s.row.length : Int) < s.size ∨ fastN s.row < s.row.length) :
    Calls Try.prog 64 #[ptr K.c] w fun e w' => e = .returned (.tuple #[]) ∧ ∃ K', CacheAt w' K' { s with row := placeR s.size s.row } ∧ K'.c = K.c ∧ K'.d = K.d ∧ K'.e = K.e ∧ K'.mb = K.mb ∧ (∀ k ∈ K'.ns, k ∈ K.ns) ∧ Fr K.has w w' := by
  obtain ⟨D, hown, hV, hsz⟩ := h.size_is
  have c2 := h.c2
  have c3 := h.c3
  have c4 := h.c4
  have hD : w.drew.ownsMap Try.prog 3 valElem K.mb top D := hown
  unfold placeR
  by_cases hlt : (s.row.length : Int) < s.size
  · rw [if_pos hlt]
    have H : Hid (CacheAt w.drew K s) := h.fr (Fr.drew (T := fun _ => False) w) fun _ _ q => q
    have hlen := fun ty => hD.len Try.underlying70 ty
    rw [hsz] at hlen
    clear h hf hD hown
    unfold ptr at *
    go_enter Try.func64, Try.ntmps64
    go_wp2_with (fail)
    go_region
    go_wp2
    refine bodyPost_ret (results_none rfl _ _ _) rfl ?_
    exact ⟨rfl, K, H.out, rfl, rfl, rfl, rfl, fun _ q => q, Fr.drew w⟩
  · rw [if_neg hlt]
    have hfr : fastN s.row < s.row.length := hf.resolve_left hlt
    rw [h.holds] at hfr
    obtain ⟨p, g, q, hns, hp, hg⟩ := split_fast K.M K.ns (by simpa using hfr)
    have hgm : g ∈ K.ns := by rw [hns]; simp
    have hlen := fun ty => hD.len Try.underlying70 ty
    rw [hsz] at hlen
    have hring := h.ring
    have e3 : w.drew.cell? ⟨K.e, 3, none⟩ = some (ptr (K.M K.e).nx) := (h.nodes K.e (.inl rfl)).c3
    rw [seg_first hring] at e3
    have c4' : w.drew.cell? ⟨K.c, 4, none⟩ = some (ptr K.e) := c4
    have hfx : ∀ x ∈ K.ns, w.drew.cell? ⟨x, 1, none⟩ = some (.bool (K.M x).fast) ∧ w.drew.cell? ⟨x, 3, none⟩ = some (ptr (K.M x).nx) := fun x hx => ⟨(h.nodes x (.inr hx)).c1, (h.nodes x (.inr hx)).c3⟩
    have hnx : ∀ a x y b, K.ns = a ++ x :: y :: b → (K.M x).nx = y := fun a x y b e => by
      rw [e] at hring
      exact ((seg_append _ _ _ _ _ _).1 hring).2.1.1
    have HX : Hid (∀ x ∈ K.ns, w.drew.cell? ⟨x, 1, none⟩ = some (.bool (K.M x).fast) ∧ w.drew.cell? ⟨x, 3, none⟩ = some (ptr (K.M x).nx)) := hfx
    have HNX : Hid (∀ a x y b, K.ns = a ++ x :: y :: b → (K.M x).nx = y) := hnx
    have HP : Hid (∀ a ∈ p, (K.M a).fast = true) := hp
    have HNS : Hid (K.ns = p ++ g :: q) := hns
    have hstart : ∃ a x b, p ++ [g] = a ++ x :: b ∧ (K.ns ++ [K.e]).headD 0 = x ∧ b.length = p.length := by
      rw [hns]
      cases p with
      | nil => exact ⟨[], g, [], rfl, rfl, rfl⟩
      | cons a t => exact ⟨[], a, t ++ [g], rfl, rfl, by simp⟩
    have HST : Hid (∃ a x b, p ++ [g] = a ++ x :: b ∧ (K.ns ++ [K.e]).headD 0 = x ∧ b.length = p.length) := hstart
    have near := seg_near (p := p) (q := q) (h := g) (e := K.e) (M := K.M) (by rw [← hns]; exact hring)
    have HC : Hid (CacheAt w.drew K s) := h.fr (Fr.drew (T := fun _ => False) w) fun _ _ q => q
    have hnp : (K.M g).pv = K.e ∨ (K.M g).pv ∈ K.ns := by
      rw [hns]
      rcases List.mem_cons.1 near.1 with q | q
      · exact .inl q
      · exact .inr (by simp [q])
    have hnn : (K.M g).nx = K.e ∨ (K.M g).nx ∈ K.ns := by
      rw [hns]
      rcases List.mem_append.1 near.2 with q | q
      · exact .inr (by simp [q])
      · exact .inl (by simpa using q)
    have HL : Hid (Calls Try.prog 63 #[ptr g] w.drew fun e w' => e = .returned (.tuple #[]) ∧ Nodes w' (leaveM K.M g) (fun k => k = K.e ∨ k ∈ K.ns) ∧ Fr (fun k => k = (K.M g).pv ∨ k = (K.M g).nx) w.drew w') :=
      leave_of HC.out.nodes (.inr hgm) hnp hnn
    clear h hf hD hown hfr hfx hnx hp hns hstart near hring hsz hV
    generalize (K.ns ++ [K.e]).headD 0 = x0 at *
    unfold ptr at c2 c3 c4 c4' e3
    have hlt' : ¬ (s.row.length : Int) < s.size := hlt
    unfold ptr
    go_enter Try.func64, Try.ntmps64
    go_wp2_with (fail)
    go_region
    clear hlen
    generalize hV : w.drew = V at *
    go_wp2_with (fail)
    go_loopg [2] p.length (fun k s2 wx => ∃ a x b, p ++ [g] = a ++ x :: b ∧ s2 = .pointer (some ⟨x, 0, none⟩) ∧ k = b.length ∧ wx = V)
    case atStart =>
      obtain ⟨a, x, b, h1, h2, h3⟩ := HST.out
      exact ⟨a, x, b, h1, by rw [h2], h3.symm, rfl⟩
    case round =>
      obtain ⟨a, x, b, hab, rfl, rfl, rfl⟩ := hrel
      cases b with
      | cons y b' =>
        have e1 : p = a ++ x :: (y :: b').dropLast := by
          have := congrArg List.dropLast hab
          simpa [List.dropLast_append_of_ne_nil] using this
        have hxp : x ∈ p := by rw [e1]; simp
        have hxn : x ∈ K.ns := by rw [HNS.out]; simp [hxp]
        obtain ⟨x1, x3⟩ := HX.out x hxn
        rw [HP.out x hxp] at x1
        have e2 : K.ns = a ++ x :: y :: (b' ++ q) := by
          rw [HNS.out, show p ++ g :: q = (p ++ [g]) ++ q by simp, hab]
          simp
        rw [HNX.out a x y _ e2] at x3
        unfold ptr at x3
        clear e1 e2 hxp hxn
        go_wp2
        go_roundg b'.length
        case measure => simp
        case rel => exact ⟨a ++ [x], y, b', by rw [hab]; simp, rfl, rfl, rfl⟩
      | nil =>
        have hxg : x = g := by
          have := congrArg (fun l => l.getLast?) hab
          simpa using this.symm
        subst hxg
        obtain ⟨x1, _⟩ := HX.out x hgm
        rw [hg] at x1
        clear hab
        go_wp2_with (go_at_call 63; fail)
        refine HL.out.mono ?_
        rintro e W1 ⟨rfl, hN1, hF1⟩
        have hC := HC.out
        have hcn : K.c ≠ (K.M x).pv ∧ K.c ≠ (K.M x).nx := ⟨(hC.cne hnp).symm, (hC.cne hnn).symm⟩
        have hmn : K.mb ≠ (K.M x).pv ∧ K.mb ≠ (K.M x).nx := ⟨(hC.mne hnp).symm, (hC.mne hnn).symm⟩
        have d3 : W1.cell? ⟨K.c, 3, none⟩ = some (.map (some K.mb)) := by
          rw [Joins.cell_of_block ((hF1.block K.c (hC.lt _ (.inl rfl)) (by rintro (q | q); exact hcn.1 q; exact hcn.2 q)).trans hC.row)]
          rfl
        have x0' : W1.cell? ⟨x, 0, none⟩ = some (.int .i64 (posOf K.M x)) := by
          have := (hN1 x (.inr hgm)).c0
          rw [(leave_rest K.M x x).1] at this
          exact this
        have hmW : MapIs Try.prog 3 W1.drew K.mb (mapV K.M K.ns) := hC.map.kept (hF1.block K.mb (hC.lt _ (.inr (.inl rfl))) (by rintro (q | q); exact hmn.1 q; exact hmn.2 q))
        have hposW : (Lit.int .i64 (posOf K.M x)).wf = true := inTop.wf (hC.ok.pos (hld K.M x) (by rw [hC.holds]; exact List.mem_map.2 ⟨x, hgm, rfl⟩)).1
        have HF : Hid (∀ w', MapIs Try.prog 3 w' K.mb (fun y => if y = posOf K.M x then none else mapV K.M K.ns y) → W1.drew.grownBy w' (some K.mb) →
            ∃ K', CacheAt w' K' { s with row := List.eraseP (fun h => !h.fast) s.row } ∧ K'.c = K.c ∧ K'.d = K.d ∧ K'.e = K.e ∧ K'.mb = K.mb ∧ (∀ k ∈ K'.ns, k ∈ K.ns) ∧ Fr K.has w w') := by
          intro w' hm' hg'
          have f2 : Fr (fun i => i = K.mb) W1 w' := (Fr.drew W1).trans ((Fr.ofGrown hg').mono fun i _ q => by injection q with q; exact q.symm) fun _ _ q => q
          have f3 : Fr K.has wr w' := (hF1.mono (T' := K.has) fun i _ q => by
            rcases q with rfl | rfl
            · exact .inr (.inr hnp)
            · exact .inr (.inr hnn)).trans f2 fun i _ q => by rw [q]; exact .inr (.inl rfl)
          have f4 : Fr K.has w w' := by
            have := (Fr.drew (T := K.has) w)
            rw [hV] at this
            exact this.trans f3 fun _ _ q => q
          have hN2 : Nodes w' (leaveM K.M x) (fun k => k = K.e ∨ k ∈ K.ns) := hN1.kept fun k hk => f2.block k (by have := hC.lt k (.inr (.inr hk)); have := hF1.size; omega) (hC.mne hk)
          have hrow : s.row = p.map (hld K.M) ++ hld K.M x :: q.map (hld K.M) := by rw [hC.holds, HNS.out]; simp
          have her : List.eraseP (fun h => !h.fast) s.row = (p ++ q).map (hld K.M) := by
            rw [hrow, eraseP_split (x := hld K.M x) (fun a ha => by
              obtain ⟨y, hy, rfl⟩ := List.mem_map.1 ha
              show (!(K.M y).fast) = false
              rw [HP.out y hy]; rfl) (by show (!(K.M x).fast) = true; rw [hg]; rfl), List.map_append]
          have hfn : fastN (List.eraseP (fun h => !h.fast) s.row) = fastN s.row := by
            rw [her, hrow]
            have : (hld K.M x).fast = false := hg
            simp [fastN, List.countP_append, this]
          refine ⟨_, hC.out HNS.out (s' := { s with row := List.eraseP (fun h => !h.fast) s.row }) rfl her ?_ hm' hN2, rfl, rfl, rfl, rfl, ?_, f4⟩
          · have e1 : ckRow K { s with row := List.eraseP (fun h => !h.fast) s.row } = ckRow K s := by unfold ckRow; simp only [hfn]
            rw [e1]
            refine (f2.block K.c (by have := hC.lt _ (.inl rfl); have := hF1.size; omega) hC.cm).trans ?_
            exact (hF1.block K.c (hC.lt _ (.inl rfl)) (by rintro (q | q); exact hcn.1 q; exact hcn.2 q)).trans hC.row
          · intro k hk
            rw [HNS.out]
            have hk' : k ∈ p ++ q := hk
            simp at hk' ⊢
            rcases hk' with h | h <;> simp [h]
        clear hN1 hF1 HL HC hC HX HNX HST HP HNS hV e3 c4' hcn hmn
        go_wp2_with (fail)
        go_still_tail 8, (by kernel_rfl)
        change wpList _ _ _ _ _ (World.drew _)
        refine wpList_delM rfl (.tmp 33) (.tmp 37) 70 rfl 71 Try.underlying3 keyed3 Try.underlying70 K.mb _ rfl hmW (posOf K.M x) hposW rfl ?_
        intro w' hm' hg'
        have HR := HF.out w' hm' hg'
        have HR' : Hid _ := HR
        clear HF HR hm' hg' hmW
        go_wp2
        go_end0
        exact ⟨rfl, HR'.out⟩
end Go.Proofs.Ytencclpcebpgmaa
/- A block of a cache is used: it is the last of the row from then on; no condition. -/
namespace Go.Proofs.Ytencclpcebpgmaa
open Go.RowKit Go.Maps

theorem setM_self (M : Nat → Nd) (g : Nat) : setM M g (M g) = M := by
  funext k
  unfold setM
  split
  · next h => rw [h]
  · rfl
theorem setM_other (M : Nat → Nd) (g : Nat) (n : Nd) {k : Nat} (h : k ≠ g) : setM M g n k = M k := by unfold setM; rw [if_neg h]
theorem setM_same (M : Nat → Nd) (g : Nat) (n : Nd) : setM M g n g = n := by unfold setM; rw [if_pos rfl]
/-- A cache whose row has got one more, the last. -/
theorem cache_stood {w : World} {K : KLoc} {s : CSt} {M : Nat → Nd} {ns : List Nat} {g : Nat} {n : Nd} (hnd : (g :: K.e :: ns).Nodup) (hseg : seg (Lnk M) K.e ns K.e)
    (hc : w.heap[K.c]? = some (.cells (ckRow K s) 73)) (hm : MapIs Try.prog 3 w K.mb (mapV (standM (setM M g n) g K.e) (ns ++ [g])))
    (hN : Nodes w (standM (setM M g n) g K.e) (fun k => k = g ∨ k = K.e ∨ k ∈ ns)) (hrow : s.row = ns.map (hld M) ++ [⟨n.pos, n.fast, n.dat⟩]) (hok : COk s) :
    CacheAt w { K with ns := ns ++ [g], M := standM (setM M g n) g K.e } s := by
  have hgn : ∀ x, x ∈ K.e :: ns → x ≠ g := fun x hx e => (List.nodup_cons.1 hnd).1 (e ▸ hx)
  have hh : ∀ x, hld (standM (setM M g n) g K.e) x = hld (setM M g n) x := fun x => by
    obtain ⟨a1, a2, a3⟩ := stand_rest (setM M g n) g K.e x
    unfold hld
    rw [a1, a2, a3]
  refine ⟨hc, hm, hN.mono fun x hx => ?_, stand_seg hnd ?_, ?_, ?_, hok⟩
  · rcases hx with h | h
    · exact .inr (.inl h)
    · have h : x ∈ ns ++ [g] := h
      simp at h
      rcases h with h | h
      · exact .inr (.inr h)
      · exact .inl h
  · refine seg_mono _ _ _ hseg fun x y hx hy hl => ?_
    have hy' : y ∈ K.e :: ns := by simp at hy ⊢; rcases hy with h | h <;> simp [h]
    unfold Lnk
    rw [setM_other _ _ _ (hgn x hx), setM_other _ _ _ (hgn y hy')]
    exact hl
  · have : (ns ++ [g]).Perm (g :: ns) := List.perm_append_comm (l₁ := ns) (l₂ := [g])
    have h2 : (K.e :: (ns ++ [g])).Perm (K.e :: g :: ns) := this.cons _
    exact ((h2.trans (List.Perm.swap ..)).nodup_iff).2 hnd
  · rw [hrow, List.map_append]
    congr 1
    · refine List.map_congr_left fun x hx => ?_
      rw [hh x]
      unfold hld
      rw [setM_other _ _ _ (hgn x (List.mem_cons_of_mem _ hx))]
    · show _ = [hld (standM (setM M g n) g K.e) g]
      rw [hh g]
      unfold hld
      rw [setM_same]
variable {w : World} {K : KLoc} {L : Loc} {s : CSt} {t : St}
theorem use_bad (h : CD w K L s t) {k : Int} (hb : refV t k ≠ 0) : Calls Try.prog 53 #[ptr K.c, .int .i64 k] w fun e w' => e = .returned (.tuple #[nilp, .bool false, .int .i64 (refV t k)]) ∧ w' = w := by
  have hR := refusesC_of h k
  have hne : (refV t k != 0) = true := by simp [hb]
  clear h hb
  generalize refV t k = r at *
  unfold ptr nilp at *
  go_enter Try.func53, Try.ntmps53
  go_wp2_with (first | (go_at_call 54; refine hR.mono ?_; rintro e W ⟨rfl, rfl⟩))
  go_ret3
  exact ⟨rfl, rfl⟩
theorem use_none {v : Value} (h : NoneAt w v) (k : Int) : Calls Try.prog 53 #[v, .int .i64 k] w fun e w' => e = .returned (.tuple #[nilp, .bool false, .int .i64 1]) ∧ w' = w := by
  have hR := refusesC_none h k
  clear h
  unfold nilp at *
  go_enter Try.func53, Try.ntmps53
  go_wp2_with (first | (go_at_call 54; refine hR.mono ?_; rintro e W ⟨rfl, rfl⟩))
  go_ret3
  exact ⟨rfl, rfl⟩
theorem zero71 (u : World) : (zeroValue 71).run Try.prog u = .ok nilp u := by
  have h : (Try.prog.info? 71).map (fun i => (i.zero, i.size)) = some (some nilp, 1) := by kernel_rfl
  exact (zero_of_info h).1 u
set_option maxRecDepth 20000 in
set_option maxHeartbeats 2000000 in
/-- The block is held. -/
theorem use_held (h : CD w K L s t) {k : Int} (hb : refV t k = 0) {p q : List Nat} {g : Nat} (hns : K.ns = p ++ g :: q) (hg : posOf K.M g = k) :
    Calls Try.prog 53 #[ptr K.c, .int .i64 k] w fun e w' => e = .returned (.tuple #[ptr g, .bool false, .int .i64 0]) ∧
      ∃ M', CacheAt w' { K with ns := (p ++ q) ++ [g], M := M' } { s with row := (p ++ q).map (hld K.M) ++ [hld K.M g] } ∧ hld M' g = hld K.M g ∧ Fr K.has w w' := by
  have hR := refusesC_of h k
  rw [hb] at hR
  have hC := h.cache
  have hgm : g ∈ K.ns := by rw [hns]; simp
  have hwf : (Lit.int .i64 k).wf = true := inTop.wf (inTop_of h.disk.ok (refV_ok hb).2)
  have hmv : mapV K.M K.ns k = some (ptr g) := by rw [← hg]; exact mapV_some hC.posNd hgm
  have hmap := hC.map
  have c3 := hC.c3
  have c4 := hC.c4
  have near := seg_near (p := p) (q := q) (h := g) (e := K.e) (M := K.M) (by rw [← hns]; exact hC.ring)
  have hnp : (K.M g).pv = K.e ∨ (K.M g).pv ∈ K.ns := by
    rw [hns]
    rcases List.mem_cons.1 near.1 with q | q
    · exact .inl q
    · exact .inr (by simp [q])
  have hnn : (K.M g).nx = K.e ∨ (K.M g).nx ∈ K.ns := by
    rw [hns]
    rcases List.mem_append.1 near.2 with q | q
    · exact .inr (by simp [q])
    · exact .inl (by simpa using q)
  have hL := leave_of hC.nodes (.inr hgm) hnp hnn
  have hnd := hC.nd
  rw [hns] at hnd
  have hnd2 : (g :: K.e :: (p ++ q)).Nodup := by
    have e1 : (K.e :: (p ++ g :: q)).Perm (g :: K.e :: (p ++ q)) := (List.perm_middle.cons K.e).trans (List.Perm.swap ..)
    exact (e1.nodup_iff).1 hnd
  have hseg := leave_seg hnd (by rw [← hns]; exact hC.ring)
  have z71 := zero71
  have HS : Hid (∀ W, Nodes W (leaveM K.M g) (fun k => k = K.e ∨ k ∈ K.ns) → Fr (fun k => k = (K.M g).pv ∨ k = (K.M g).nx) w W →
      W.cell? ⟨K.c, 4, none⟩ = some (ptr K.e) ∧ Calls Try.prog 65 #[ptr g, ptr K.e] W fun x w' => x = .returned (.tuple #[]) ∧
      ∃ M', CacheAt w' { K with ns := (p ++ q) ++ [g], M := M' } { s with row := (p ++ q).map (hld K.M) ++ [hld K.M g] } ∧ hld M' g = hld K.M g ∧ Fr K.has w w') := by
    intro W hN hF
    have hcn : K.c ≠ (K.M g).pv ∧ K.c ≠ (K.M g).nx := ⟨(hC.cne hnp).symm, (hC.cne hnn).symm⟩
    have hmn : K.mb ≠ (K.M g).pv ∧ K.mb ≠ (K.M g).nx := ⟨(hC.mne hnp).symm, (hC.mne hnn).symm⟩
    have hcW : W.heap[K.c]? = some (.cells (ckRow K s) 73) := (hF.block K.c (hC.lt _ (.inl rfl)) (by rintro (q | q); exact hcn.1 q; exact hcn.2 q)).trans hC.row
    have hmW : MapIs Try.prog 3 W K.mb (mapV K.M K.ns) := hC.map.kept (hF.block K.mb (hC.lt _ (.inr (.inl rfl))) (by rintro (q | q); exact hmn.1 q; exact hmn.2 q))
    refine ⟨by rw [Joins.cell_of_block hcW]; rfl, ?_⟩
    have hsub : ∀ x, x ∈ p ++ q → x ∈ K.ns := fun x hx => by rw [hns]; simp at hx ⊢; rcases hx with h | h <;> simp [h]
    have hgS : ¬ (g = K.e ∨ g ∈ p ++ q) := by
      rintro (e | e)
      · exact (List.nodup_cons.1 hnd2).1 (by rw [e]; simp)
      · exact (List.nodup_cons.1 hnd2).1 (List.mem_cons_of_mem _ e)
    have hlast : (leaveM K.M g K.e).pv = K.e ∨ (leaveM K.M g K.e).pv ∈ p ++ q := by
      rcases List.mem_cons.1 (seg_last hseg) with h | h
      · exact .inl h
      · exact .inr h
    have hst := stand_of (S := fun x => x = K.e ∨ x ∈ p ++ q) (hN.mono fun x hx => hx.imp id (hsub x)) (h := g) (e := K.e) (n := leaveM K.M g g) hgS (.inl rfl) hlast (hN g (.inr hgm))
    refine hst.mono ?_
    rintro e w' ⟨rfl, hN2, hF2⟩
    have hF3 : Fr K.has w w' := (hF.mono (T' := K.has) fun i _ q => by
        rcases q with rfl | rfl
        · exact .inr (.inr hnp)
        · exact .inr (.inr hnn)).trans hF2 fun i _ q => by
      rcases q with rfl | rfl | rfl
      · exact .inr (.inr (.inr hgm))
      · exact .inr (.inr (.inl rfl))
      · exact .inr (.inr (hlast.imp id (hsub _)))
    have hT : ∀ x, (x = K.c ∨ x = K.mb) → ¬ (x = g ∨ x = K.e ∨ x = (leaveM K.M g K.e).pv) := by
      rintro x hx (e | e | e)
      · rcases hx with rfl | rfl
        · exact hC.cne (.inr hgm) e.symm
        · exact hC.mne (.inr hgm) e.symm
      · rcases hx with rfl | rfl
        · exact hC.cne (.inl rfl) e.symm
        · exact hC.mne (.inl rfl) e.symm
      · rcases hx with rfl | rfl
        · exact hC.cne (hlast.imp id (hsub _)) e.symm
        · exact hC.mne (hlast.imp id (hsub _)) e.symm
    have hsz := hF.size
    have hlr : ∀ x, hld (leaveM K.M g) x = hld K.M x := fun x => by
      obtain ⟨a1, a2, a3⟩ := leave_rest K.M g x
      unfold hld
      rw [a1, a2, a3]
    have hrow : s.row = p.map (hld K.M) ++ hld K.M g :: q.map (hld K.M) := by rw [hC.holds, hns]; simp
    have hperm : ((p ++ q).map (hld K.M) ++ [hld K.M g]).Perm s.row := by
      rw [hrow, List.map_append]
      refine (List.perm_append_comm).trans ?_
      exact (List.perm_middle (l₁ := p.map (hld K.M)) (l₂ := q.map (hld K.M)) (a := hld K.M g)).symm
    have hfn : fastN ((p ++ q).map (hld K.M) ++ [hld K.M g]) = fastN s.row := hperm.countP_eq _
    have hok : COk { s with row := (p ++ q).map (hld K.M) ++ [hld K.M g] } :=
      ⟨hC.ok.size, by show (((p ++ q).map (hld K.M) ++ [hld K.M g]).length : Int) ≤ s.size; rw [hperm.length_eq]; exact hC.ok.len, fun x hx => hC.ok.pos x (hperm.subset hx), ((hperm.map _).nodup_iff).2 hC.ok.nodup⟩
    have hpM : ∀ x, posOf (standM (setM (leaveM K.M g) g (leaveM K.M g g)) g K.e) x = posOf K.M x := fun x => by
      rw [setM_self]
      exact ((stand_rest (leaveM K.M g) g K.e x).1).trans (leave_rest K.M g x).1
    have hnsp : ((p ++ q) ++ [g]).Perm K.ns := by
      rw [hns]
      exact (List.perm_append_comm).trans (List.perm_middle (l₁ := p) (l₂ := q) (a := g)).symm
    refine ⟨rfl, standM (setM (leaveM K.M g) g (leaveM K.M g g)) g K.e, ?_, ?_, hF3⟩
    · refine cache_stood (K := K) (s := { s with row := (p ++ q).map (hld K.M) ++ [hld K.M g] }) hnd2 hseg ?_ ?_ hN2 ?_ hok
      · have e1 : ckRow K { s with row := (p ++ q).map (hld K.M) ++ [hld K.M g] } = ckRow K s := by unfold ckRow; simp only [hfn]
        rw [e1]
        exact (hF2.block K.c (by have := hC.lt _ (.inl rfl); omega) (hT _ (.inl rfl))).trans hcW
      · have e1 := mapV_ext (M := K.M) (M' := standM (setM (leaveM K.M g) g (leaveM K.M g g)) g K.e) (ns := K.ns) (ns' := (p ++ q) ++ [g]) hC.posNd
          (by rw [List.map_congr_left fun x _ => hpM x]; exact ((hnsp.map _).nodup_iff).2 hC.posNd) (fun x => (hnsp.mem_iff).symm) fun x _ => hpM x
        rw [← e1]
        exact hmW.kept (hF2.block K.mb (by have := hC.lt _ (.inr (.inl rfl)); omega) (hT _ (.inr rfl)))
      · show (p ++ q).map (hld K.M) ++ [hld K.M g] = _
        congr 1
        · exact List.map_congr_left fun x _ => (hlr x).symm
        · rw [← hlr g]
          rfl
    · rw [setM_self]
      obtain ⟨a1, a2, a3⟩ := stand_rest (leaveM K.M g) g K.e g
      rw [← hlr g]
      unfold hld
      rw [a1, a2, a3]
  clear hb h hC hns hg hgm near hnp hnn hnd hnd2 hseg
  generalize (p ++ q).map (hld K.M) ++ [hld K.M g] = R at *
  have HL : Hid (Calls Try.prog 63 #[ptr g] w fun e w' => e = .returned (.tuple #[]) ∧ Nodes w' (leaveM K.M g) (fun k => k = K.e ∨ k ∈ K.ns) ∧ Fr (fun k => k = (K.M g).pv ∨ k = (K.M g).nx) w w') := hL
  clear hL
  unfold nilp at z71
  unfold ptr at c3 c4 hmv hR ⊢
  go_enter Try.func53, Try.ntmps53
  go_wp2_with (first | (go_at_call 54; refine hR.mono ?_; rintro e W ⟨rfl, rfl⟩) | (refine wpList_lookM_some rfl (.tmp 18) (.tmp 19) 70 rfl 71 Try.underlying3 keyed3 Try.underlying70 rfl hmap (z71 _) k hwf rfl _ hmv ?_) | (go_at_call 63; fail))
  refine HL.out.mono ?_
  rintro e W1 ⟨rfl, hN1, hF1⟩
  obtain ⟨d4, hst⟩ := HS.out W1 hN1 hF1
  unfold ptr at d4 hst
  have HST : Hid (Calls Try.prog 65 _ W1 _) := hst
  clear HS HL hN1 hF1 hst hmap
  go_wp2_with (go_at_call 65; fail)
  refine HST.out.mono ?_
  rintro e W2 ⟨rfl, M', h1, h2, h3⟩
  have H1 : Hid (CacheAt W2 _ _) := h1
  have H2 : Hid (hld M' g = hld K.M g) := h2
  have H3 : Hid (Fr K.has _ W2) := h3
  clear h1 h2 h3 HST
  go_wp2
  go_ret3
  exact ⟨rfl, M', H1.out, H2.out, H3.out⟩
end Go.Proofs.Ytencclpcebpgmaa
/- A block that a cache does not hold is used: where all are held fast, refused; else a place is made; no condition. -/
namespace Go.Proofs.Ytencclpcebpgmaa
open Go.RowKit Go.Maps
variable {w : World} {K : KLoc} {L : Loc} {s : CSt} {t : St}

theorem fastN_le (r : List Hld) : fastN r ≤ r.length := List.countP_le_length
theorem placeR_sub (n : Int) (r : List Hld) : (placeR n r).Sublist r := by
  unfold placeR
  split
  · exact List.Sublist.refl _
  · exact List.eraseP_sublist
theorem placeR_len (ok : COk s) (hf : (fastN s.row : Int) ≠ s.size) : ((placeR s.size s.row).length : Int) + 1 ≤ s.size := by
  have h1 := fastN_le s.row
  have h2 := ok.len
  unfold placeR
  split
  · omega
  · have hlt : fastN s.row < s.row.length := by omega
    have hex : ∃ a ∈ s.row, (!a.fast) = true := by
      apply Classical.byContradiction
      intro hn
      have : fastN s.row = s.row.length := List.countP_eq_length.2 fun a ha => by
        cases hq : a.fast
        · exact absurd ⟨a, ha, by rw [hq]; rfl⟩ hn
        · rfl
      omega
    obtain ⟨a, ha, hp⟩ := hex
    rw [List.length_eraseP_of_mem ha hp]
    omega
set_option maxRecDepth 20000 in
set_option maxHeartbeats 2000000 in
theorem use_full (h : CD w K L s t) {k : Int} (hb : refV t k = 0) (hno : ∀ g ∈ K.ns, posOf K.M g ≠ k) (hf : (fastN s.row : Int) = s.size) :
    Calls Try.prog 53 #[ptr K.c, .int .i64 k] w fun e w' => e = .returned (.tuple #[nilp, .bool false, .int .i64 160]) ∧ w' = w.drew := by
  have hR := refusesC_of h k
  rw [hb] at hR
  have hwf : (Lit.int .i64 k).wf = true := inTop.wf (inTop_of h.disk.ok (refV_ok hb).2)
  have hmv := mapV_none hno
  have hmap := h.cache.map
  have c2 := h.cache.c2
  have c3 := h.cache.c3
  have c5 := h.cache.c5
  rw [hf] at c5
  have z71 := zero71
  clear h hb hno hf
  unfold nilp at z71 ⊢
  unfold ptr at c3 hR ⊢
  go_enter Try.func53, Try.ntmps53
  go_wp2_with (first | (go_at_call 54; refine hR.mono ?_; rintro e W ⟨rfl, rfl⟩) | (refine wpList_lookM_none rfl (.tmp 18) (.tmp 19) 70 rfl 71 Try.underlying3 keyed3 Try.underlying70 rfl hmap (z71 _) k hwf rfl hmv ?_))
  go_region
  go_wp2
  go_ret3
  exact ⟨rfl, rfl⟩
set_option maxRecDepth 20000 in
set_option maxHeartbeats 2000000 in
theorem use_new (h : CD w K L s t) {k : Int} (hb : refV t k = 0) (hno : ∀ g ∈ K.ns, posOf K.M g ≠ k) (hf : (fastN s.row : Int) ≠ s.size) :
    Calls Try.prog 53 #[ptr K.c, .int .i64 k] w fun e w' => ∃ K' g l, e = .returned (.tuple #[ptr g, .bool true, .int .i64 0]) ∧ K'.ns = l ++ [g] ∧
      CacheAt w' K' { s with row := placeR s.size s.row ++ [⟨k, false, nought⟩] } ∧ hld K'.M g = ⟨k, false, nought⟩ ∧ K'.c = K.c ∧ K'.d = K.d ∧ (∀ i, K'.has i → K.has i ∨ w.heap.size ≤ i) ∧ Fr K.has w w' := by
  have hR := refusesC_of h k
  rw [hb] at hR
  have hin := inTop_of h.disk.ok (refV_ok hb).2
  have hwf : (Lit.int .i64 k).wf = true := inTop.wf hin
  have hmv := mapV_none hno
  have hC := h.cache
  have hmap := hC.map
  have c2 := hC.c2
  have c3 := hC.c3
  have c5 := hC.c5
  have z71 := zero71
  have hle := fastN_le s.row
  have hlen := hC.ok.len
  have hne : ((fastN s.row : Int) == s.size) = false := by simp [hf]
  have HD : CacheAt w.drew K s := hC.fr (Fr.drew (T := fun _ => False) w) fun _ _ q => q
  have HPl : Hid (Calls Try.prog 64 #[ptr K.c] w.drew fun e w' => e = .returned (.tuple #[]) ∧ ∃ K', CacheAt w' K' { s with row := placeR s.size s.row } ∧ K'.c = K.c ∧ K'.d = K.d ∧ K'.e = K.e ∧ K'.mb = K.mb ∧ (∀ k ∈ K'.ns, k ∈ K.ns) ∧ Fr K.has w.drew w') :=
    place_of HD (by omega)
  have hpl := placeR_len hC.ok hf
  have hps := placeR_sub s.size s.row
  have hposR : ∀ x ∈ placeR s.size s.row, x.pos ≠ k := by
    intro x hx
    have hx' := hps.subset hx
    rw [hC.holds] at hx'
    obtain ⟨g, hg, rfl⟩ := List.mem_map.1 hx'
    exact hno g hg
  have hnodR : ((placeR s.size s.row).map (·.pos)).Nodup := hC.ok.nodup.sublist (hps.map _)
  have hsize := hC.ok.size
  have hb98 := built98k k
  have HS : Hid (∀ W1 K1, CacheAt W1 K1 { s with row := placeR s.size s.row } → K1.c = K.c → K1.d = K.d → K1.e = K.e → K1.mb = K.mb → (∀ k ∈ K1.ns, k ∈ K.ns) → Fr K.has w.drew W1 →
      MapIs Try.prog 3 (W1.alloc (.cells (rowV k false nilp nilp nought) 98)) K.mb (mapV K1.M K1.ns) ∧
      (W1.alloc (.cells (rowV k false nilp nilp nought) 98)).cell? ⟨K.c, 3, none⟩ = some (.map (some K.mb)) ∧
      ∀ W3, MapIs Try.prog 3 W3 K.mb (fun y => if y = k then some (ptr W1.heap.size) else mapV K1.M K1.ns y) → (W1.alloc (.cells (rowV k false nilp nilp nought) 98)).grownBy W3 (some K.mb) →
        W3.cell? ⟨K.c, 4, none⟩ = some (ptr K.e) ∧
        Calls Try.prog 65 #[ptr W1.heap.size, ptr K.e] W3 fun x w' => x = .returned (.tuple #[]) ∧
          ∃ K' l, K'.ns = l ++ [W1.heap.size] ∧ CacheAt w' K' { s with row := placeR s.size s.row ++ [⟨k, false, nought⟩] } ∧ hld K'.M W1.heap.size = ⟨k, false, nought⟩ ∧ K'.c = K.c ∧ K'.d = K.d ∧ (∀ i, K'.has i → K.has i ∨ w.heap.size ≤ i) ∧ Fr K.has w w') := by
    intro W1 K1 h1 hc1 hd1 he1 hm1 hn1 hF1
    have hb1 := below_new W1 (.cells (rowV k false nilp nilp nought) 98)
    have ht1 := heap_alloc_new W1 (.cells (rowV k false nilp nilp nought) 98)
    have hd3 : (W1.alloc (.cells (rowV k false nilp nilp nought) 98)).cell? ⟨K.c, 3, none⟩ = some (.map (some K.mb)) := by
      rw [← hc1, Joins.cell_of_block ((hb1.block _ (h1.lt _ (.inl rfl))).trans h1.row), ← hm1]
      rfl
    refine ⟨by rw [← hm1]; exact h1.map.kept (hb1.block _ (h1.lt _ (.inr (.inl rfl)))), hd3, ?_⟩
    intro W3 hm3 hg3
    have f2 : Fr (fun i => i = K.mb) (W1.alloc (.cells (rowV k false nilp nilp nought) 98)) W3 := (Fr.ofGrown hg3).mono fun i _ q => by injection q with q; exact q.symm
    have f1 : Fr (fun _ => False) W1 (W1.alloc (.cells (rowV k false nilp nilp nought) 98)) := Fr.alloc _ _ _
    have f12 : Fr (fun i => i = K.mb) W1 W3 := (f1.mono (T' := fun i => i = K.mb) fun _ _ q => q.elim).trans f2 fun _ _ q => q
    have hN3 : Nodes W3 K1.M (fun x => x = K1.e ∨ x ∈ K1.ns) := h1.nodes.kept fun x hx => f12.block x (h1.lt x (.inr (.inr hx))) (by rw [← hm1]; exact h1.mne hx)
    have hgm : W1.heap.size ≠ K.mb := by have := h1.lt K1.mb (.inr (.inl rfl)); rw [hm1] at this; omega
    have hr3 : RowAt W3 W1.heap.size k false nilp nilp nought := (f2.block W1.heap.size (by simp) hgm).trans ht1
    have hc3 : W3.heap[K1.c]? = some (.cells (ckRow K1 { s with row := placeR s.size s.row }) 73) := (f12.block K1.c (h1.lt _ (.inl rfl)) (by rw [← hm1]; exact h1.cm)).trans h1.row
    refine ⟨?_, ?_⟩
    · rw [← hc1, Joins.cell_of_block hc3, ← he1]
      rfl
    have hgS : ¬ (W1.heap.size = K1.e ∨ W1.heap.size ∈ K1.ns) := fun hx => by have := h1.lt _ (.inr (.inr hx)); omega
    have hlast : (K1.M K1.e).pv = K1.e ∨ (K1.M K1.e).pv ∈ K1.ns := List.mem_cons.1 (seg_last h1.ring)
    have hst := stand_of (S := fun x => x = K1.e ∨ x ∈ K1.ns) hN3 (h := W1.heap.size) (e := K1.e) (n := ⟨k, false, 0, 0, nought⟩) hgS (.inl rfl) hlast hr3
    rw [he1] at hst
    refine hst.mono ?_
    rintro e w' ⟨rfl, hN4, hF4⟩
    rw [← he1] at hN4 hF4
    have hnd2 : (W1.heap.size :: K1.e :: K1.ns).Nodup := List.nodup_cons.2 ⟨fun hx => hgS (List.mem_cons.1 hx), h1.nd⟩
    have hT : ∀ x, (x = K1.c ∨ x = K1.mb) → ¬ (x = W1.heap.size ∨ x = K1.e ∨ x = (K1.M K1.e).pv) := by
      rintro x hx (e | e | e)
      · have : x < W1.heap.size := by
          rcases hx with rfl | rfl
          · exact h1.lt _ (.inl rfl)
          · exact h1.lt _ (.inr (.inl rfl))
        omega
      · rcases hx with rfl | rfl
        · exact h1.cne (.inl rfl) e.symm
        · exact h1.mne (.inl rfl) e.symm
      · rcases hx with rfl | rfl
        · exact h1.cne hlast e.symm
        · exact h1.mne hlast e.symm
    have hsz13 := f12.size
    have hlt1 : ∀ x, K1.has x → x < W3.heap.size := fun x hx => by have := h1.lt x hx; omega
    have hK1 : ∀ x, K1.has x → K.has x := by
      rintro x (q | q | q | q)
      · exact .inl (by rw [q, hc1])
      · exact .inr (.inl (by rw [q, hm1]))
      · exact .inr (.inr (.inl (by rw [q, he1])))
      · exact .inr (.inr (.inr (hn1 x q)))
    have hpM : ∀ x, x ≠ W1.heap.size → posOf (standM (setM K1.M W1.heap.size ⟨k, false, 0, 0, nought⟩) W1.heap.size K1.e) x = posOf K1.M x := fun x hx => by
      refine ((stand_rest _ _ _ x).1).trans ?_
      unfold posOf
      rw [setM_other _ _ _ hx]
    have hpG : posOf (standM (setM K1.M W1.heap.size ⟨k, false, 0, 0, nought⟩) W1.heap.size K1.e) W1.heap.size = k := by
      refine ((stand_rest _ _ _ _).1).trans ?_
      rw [setM_same]
    have hne1 : ∀ x ∈ K1.ns, x ≠ W1.heap.size := fun x hx e => hgS (.inr (e ▸ hx))
    have hrow1 : placeR s.size s.row = K1.ns.map (hld K1.M) := h1.holds
    have hfn : fastN (placeR s.size s.row ++ [⟨k, false, nought⟩]) = fastN (placeR s.size s.row) := by simp [fastN, List.countP_append]
    have hok : COk { s with row := placeR s.size s.row ++ [⟨k, false, nought⟩] } := by
      refine ⟨hsize, ?_, ?_, ?_⟩
      · show ((placeR s.size s.row ++ [(⟨k, false, nought⟩ : Hld)]).length : Int) ≤ s.size
        rw [List.length_append]
        simpa using hpl
      · intro x hx
        rcases List.mem_append.1 hx with hx | hx
        · exact h1.ok.pos x hx
        · obtain rfl : x = ⟨k, false, nought⟩ := by simpa using hx
          exact ⟨hin, can_nought⟩
      · show ((placeR s.size s.row ++ [(⟨k, false, nought⟩ : Hld)]).map (·.pos)).Nodup
        rw [List.map_append, List.nodup_append]
        refine ⟨hnodR, by simp, ?_⟩
        intro a ha b hb e
        obtain ⟨x, hx, rfl⟩ := List.mem_map.1 ha
        simp at hb
        exact hposR x hx (e.trans hb)
    have hndm : ((K1.ns ++ [W1.heap.size]).map (posOf (standM (setM K1.M W1.heap.size ⟨k, false, 0, 0, nought⟩) W1.heap.size K1.e))).Nodup := by
      rw [List.map_append, List.map_congr_left fun x hx => hpM x (hne1 x hx)]
      have := hok.nodup
      rw [List.map_append] at this
      have e1 : (placeR s.size s.row).map (·.pos) = K1.ns.map (posOf K1.M) := by rw [hrow1, List.map_map]; rfl
      rw [e1] at this
      simpa [hpG] using this
    refine ⟨rfl, { K1 with ns := K1.ns ++ [W1.heap.size], M := standM (setM K1.M W1.heap.size ⟨k, false, 0, 0, nought⟩) W1.heap.size K1.e }, K1.ns, rfl, ?_, ?_, hc1, hd1, ?_, ?_⟩
    · refine cache_stood (K := K1) (n := ⟨k, false, 0, 0, nought⟩) hnd2 h1.ring ?_ ?_ hN4 ?_ hok
      · have e1 : ckRow K1 { s with row := placeR s.size s.row ++ [⟨k, false, nought⟩] } = ckRow K1 { s with row := placeR s.size s.row } := by unfold ckRow; simp only [hfn]
        rw [e1]
        exact (hF4.block K1.c (hlt1 _ (.inl rfl)) (hT _ (.inl rfl))).trans hc3
      · have e1 := mapV_add (M := K1.M) (ns := K1.ns) (g := W1.heap.size) hndm fun x hx => hpM x (hne1 x hx)
        rw [hpG] at e1
        rw [← e1]
        rw [← hm1] at hm3
        exact hm3.kept (hF4.block K1.mb (hlt1 _ (.inr (.inl rfl))) (hT _ (.inr rfl)))
      · show placeR s.size s.row ++ [(⟨k, false, nought⟩ : Hld)] = _
        rw [hrow1]
    · obtain ⟨a1, a2, a3⟩ := stand_rest (setM K1.M W1.heap.size ⟨k, false, 0, 0, nought⟩) W1.heap.size K1.e W1.heap.size
      unfold hld
      rw [a1, a2, a3, setM_same]
    · have hsw : w.heap.size ≤ W1.heap.size := hF1.size
      rintro i (q | q | q | q)
      · exact .inl (hK1 i (.inl q))
      · exact .inl (hK1 i (.inr (.inl q)))
      · exact .inl (hK1 i (.inr (.inr (.inl q))))
      · have q : i ∈ K1.ns ++ [W1.heap.size] := q
        rcases List.mem_append.1 q with q | q
        · exact .inl (hK1 i (.inr (.inr (.inr q))))
        · simp at q
          exact .inr (by omega)
    · have g1 : Fr K.has w W1 := (Fr.drew (T := K.has) w).trans hF1 fun _ _ q => q
      have g2 : Fr K.has w W3 := g1.trans f12 fun i _ q => by rw [q]; exact .inr (.inl rfl)
      refine g2.trans hF4 fun i hi q => ?_
      rcases q with q | q | q
      · have := hF1.size
        have e1 : w.drew.heap.size = w.heap.size := rfl
        omega
      · exact .inr (.inr (.inl (by rw [q, he1])))
      · exact hK1 i (by rw [q]; exact .inr (.inr hlast))
  clear hb h hC hno hf HD hpl hps hposR hnodR hsize
  generalize placeR s.size s.row ++ [(⟨k, false, nought⟩ : Hld)] = R at *
  generalize placeR s.size s.row = R1 at *
  generalize rowV k false nilp nilp nought = Z at *
  unfold nilp at z71
  unfold ptr at c3 hR ⊢
  go_enter Try.func53, Try.ntmps53
  go_wp2_with (first | (go_at_call 54; refine hR.mono ?_; rintro e W ⟨rfl, rfl⟩) | (refine wpList_lookM_none rfl (.tmp 18) (.tmp 19) 70 rfl 71 Try.underlying3 keyed3 Try.underlying70 rfl hmap (z71 _) k hwf rfl hmv ?_))
  go_region
  go_wp2_with (go_at_call 64; fail)
  refine HPl.out.mono ?_
  rintro e W1 ⟨rfl, K1, h1, hc1, hd1, he1, hm1, hn1, hF1⟩
  obtain ⟨hm2, d3, hst⟩ := HS.out W1 K1 h1 hc1 hd1 he1 hm1 hn1 hF1
  have HST : Hid (∀ W3, MapIs Try.prog 3 W3 K.mb (fun y => if y = k then some (ptr W1.heap.size) else mapV K1.M K1.ns y) → (W1.alloc (.cells Z 98)).grownBy W3 (some K.mb) →
        W3.cell? ⟨K.c, 4, none⟩ = some (ptr K.e) ∧ Calls Try.prog 65 #[ptr W1.heap.size, ptr K.e] W3 _) := hst
  clear HS HPl h1 hc1 hd1 he1 hm1 hn1 hF1 hst hmap hmv c3 c5 c2
  go_wp2_with (first | (refine wpList_build98k rfl _ rfl k rfl hb98 ?_) | (refine wpList_putM rfl (.tmp 31) (.tmp 32) (.tmp 33) 70 rfl 71 Try.underlying3 keyed3 Try.underlying70 K.mb _ rfl hm2 k hin rfl _ rfl ?_; intro W3 hm3 hg3; obtain ⟨d4, hcall⟩ := HST.out W3 hm3 hg3; have HCall : Hid (Calls Try.prog 65 _ W3 _) := hcall; clear HST hcall hm2 hg3 hm3; unfold ptr at d4) | (go_at_call 65; fail))
  refine HCall.out.mono ?_
  rintro e W4 ⟨rfl, K', l, a1, a2, a3, a4, a5, a6, a7⟩
  have HR : Hid _ := (⟨K', W1.heap.size, l, rfl, a1, a2, a3, a4, a5, a6, a7⟩ : ∃ K' g l, (Ending.returned (.tuple #[ptr W1.heap.size, .bool true, .int .i64 0])) = .returned (.tuple #[ptr g, .bool true, .int .i64 0]) ∧ K'.ns = l ++ [g] ∧
      CacheAt W4 K' { s with row := R } ∧ hld K'.M g = ⟨k, false, nought⟩ ∧ K'.c = K.c ∧ K'.d = K.d ∧ (∀ i, K'.has i → K.has i ∨ _ ≤ i) ∧ Fr K.has _ W4)
  clear a1 a2 a3 a4 a5 a6 a7
  go_wp2
  go_ret3
  exact HR.out
end Go.Proofs.Ytencclpcebpgmaa
/- What a cache is behind a use of a block, as plain functions; the contract of use in one form; a holding's bytes and its flag turned; no condition. -/
namespace Go.Proofs.Ytencclpcebpgmaa
open Go.RowKit Go.Maps
variable {w : World} {K : KLoc} {L : Loc} {s : CSt} {t : St}

def atR (r : List Hld) (k : Int) : Option Hld := r.find? (fun h => h.pos == k)
def goneR (r : List Hld) (k : Int) : List Hld := r.eraseP (fun h => h.pos == k)
def usedE (s : CSt) (t : St) (k : Int) : Int := if refV t k ≠ 0 then refV t k else if atR s.row k = none ∧ (fastN s.row : Int) = s.size then 160 else 0
def useP (s : CSt) (k : Int) : List Hld × Hld × Bool := match atR s.row k with
  | some h => (goneR s.row k, h, false)
  | none => (placeR s.size s.row, ⟨k, false, nought⟩, true)
theorem atR_none (h : CacheAt w K s) {k : Int} (ha : atR s.row k = none) : ∀ g ∈ K.ns, posOf K.M g ≠ k := by
  intro g hg e
  unfold atR at ha
  rw [h.holds] at ha
  have := List.find?_eq_none.1 ha (hld K.M g) (List.mem_map.2 ⟨g, hg, rfl⟩)
  exact this (by show ((K.M g).pos == k) = true; rw [show (K.M g).pos = k from e]; simp)
theorem find_map {f : Nat → Hld} {P : Hld → Bool} : ∀ (l : List Nat) (x : Hld), (l.map f).find? P = some x → ∃ p g q, l = p ++ g :: q ∧ f g = x ∧ P x = true ∧ ∀ a ∈ p, P (f a) = false
  | [], x, h => by simp at h
  | a :: t, x, h => by
    rw [List.map_cons, List.find?_cons] at h
    cases hp : P (f a) with
    | true =>
      rw [hp] at h
      injection h with h
      exact ⟨[], a, t, rfl, h, by rw [← h]; exact hp, by simp⟩
    | false =>
      rw [hp] at h
      obtain ⟨p, g, q, h1, h2, h3, h4⟩ := find_map t x h
      refine ⟨a :: p, g, q, by rw [h1]; rfl, h2, h3, fun b hb => ?_⟩
      rcases List.mem_cons.1 hb with rfl | hb
      · exact hp
      · exact h4 b hb
theorem atR_some (h : CacheAt w K s) {k : Int} {x : Hld} (ha : atR s.row k = some x) : ∃ p g q, K.ns = p ++ g :: q ∧ hld K.M g = x ∧ posOf K.M g = k ∧ goneR s.row k = (p ++ q).map (hld K.M) ∧ x.pos = k := by
  unfold atR at ha
  rw [h.holds] at ha
  obtain ⟨p, g, q, h1, h2, h3, h4⟩ := find_map K.ns x ha
  have hk : x.pos = k := by simpa using h3
  refine ⟨p, g, q, h1, h2, by rw [← hk, ← h2]; rfl, ?_, hk⟩
  unfold goneR
  rw [h.holds, h1, List.map_append, List.map_cons, eraseP_split (fun a ha => by
    obtain ⟨y, hy, rfl⟩ := List.mem_map.1 ha
    exact h4 y hy) (by rw [h2]; exact h3), List.map_append]
/-- A block is used. -/
theorem use_ok (h : CD w K L s t) {k : Int} (hu : usedE s t k = 0) :
    Calls Try.prog 53 #[ptr K.c, .int .i64 k] w fun e w' => ∃ K' g l, e = .returned (.tuple #[ptr g, .bool (useP s k).2.2, .int .i64 0]) ∧ K'.ns = l ++ [g] ∧
      hld K'.M g = (useP s k).2.1 ∧ CD w' K' L { s with row := (useP s k).1 ++ [(useP s k).2.1] } t ∧ GoesC w w' K L K' L := by
  have hb : refV t k = 0 := by
    apply Classical.byContradiction
    intro hb
    unfold usedE at hu
    rw [if_pos hb] at hu
    exact hb hu
  unfold useP
  cases ha : atR s.row k with
  | some x =>
    obtain ⟨p, g, q, h1, h2, h3, h4, _⟩ := atR_some h.cache ha
    refine (use_held h hb h1 h3).mono ?_
    rintro e w' ⟨rfl, M', a1, a2, a3⟩
    rw [← h4, h2] at a1
    obtain ⟨b1, b2⟩ := h.caches a1 rfl rfl (by
      rintro i (r | r | r | r)
      · exact .inl (.inl r)
      · exact .inl (.inr (.inl r))
      · exact .inl (.inr (.inr (.inl r)))
      · refine .inl (.inr (.inr (.inr ?_)))
        have r : i ∈ (p ++ q) ++ [g] := r
        rw [h1]
        simp at r ⊢
        rcases r with r | r | r <;> simp [r]) a3
    exact ⟨_, g, p ++ q, rfl, rfl, a2.trans h2, b1, b2⟩
  | none =>
    have hf : (fastN s.row : Int) ≠ s.size := by
      intro e
      unfold usedE at hu
      rw [if_neg (by simp [hb]), if_pos ⟨ha, e⟩] at hu
      cases hu
    refine (use_new h hb (atR_none h.cache ha) hf).mono ?_
    rintro e w' ⟨K', g, l, rfl, a1, a2, a3, a4, a5, a6, a7⟩
    obtain ⟨b1, b2⟩ := h.caches a2 a4 a5 a6 a7
    exact ⟨K', g, l, rfl, a1, a3, b1, b2⟩
theorem use_err (h : CD w K L s t) {k : Int} (hu : usedE s t k ≠ 0) :
    Calls Try.prog 53 #[ptr K.c, .int .i64 k] w fun e w' => e = .returned (.tuple #[nilp, .bool false, .int .i64 (usedE s t k)]) ∧ Below w.heap.size w w' := by
  unfold usedE at hu ⊢
  by_cases hb : refV t k = 0
  · rw [if_neg (by simp [hb])] at hu ⊢
    by_cases hf : atR s.row k = none ∧ (fastN s.row : Int) = s.size
    · rw [if_pos hf]
      refine (use_full h hb (atR_none h.cache hf.1) hf.2).mono ?_
      rintro e w' ⟨rfl, rfl⟩
      exact ⟨rfl, ⟨rfl, rfl, rfl, Nat.le_refl _, fun _ _ => rfl⟩⟩
    · rw [if_neg hf] at hu
      exact absurd rfl hu
  · rw [if_pos hb]
    refine (use_bad h hb).mono ?_
    rintro e w' ⟨rfl, rfl⟩
    exact ⟨rfl, Below.refl _ _⟩
/-- A holding's bytes or flag have turned. -/
theorem CacheAt.turn {w' : World} (h : CacheAt w K s) {g : Nat} (hg : g ∈ K.ns) (n : Nd) (hl : n.pv = (K.M g).pv ∧ n.nx = (K.M g).nx ∧ n.pos = (K.M g).pos) {s' : CSt} (hsz : s'.size = s.size)
    (hrow : s'.row = K.ns.map (hld (setM K.M g n))) (hcan : Can n.dat) (hc : w'.heap[K.c]? = some (.cells (ckRow K s') 73)) (hm : w'.heap[K.mb]? = w.heap[K.mb]?)
    (hN : Nodes w' (setM K.M g n) (fun x => x = K.e ∨ x ∈ K.ns)) : CacheAt w' { K with M := setM K.M g n } s' := by
  have e1 : ∀ x, (setM K.M g n x).pv = (K.M x).pv ∧ (setM K.M g n x).nx = (K.M x).nx ∧ (setM K.M g n x).pos = (K.M x).pos := fun x => by
    unfold setM
    split
    · next q => rw [q]; exact hl
    · exact ⟨rfl, rfl, rfl⟩
  have hpos : s'.row.map (·.pos) = s.row.map (·.pos) := by
    rw [hrow, h.holds, List.map_map, List.map_map]
    exact List.map_congr_left fun x _ => (e1 x).2.2
  refine ⟨hc, ?_, hN, ?_, h.nd, hrow, ?_⟩
  · have e2 : mapV (setM K.M g n) K.ns = mapV K.M K.ns := by
      unfold mapV posOf
      funext k
      have : (fun x => (setM K.M g n x).pos == k) = fun x => (K.M x).pos == k := by funext x; rw [(e1 x).2.2]
      rw [this]
    show MapIs Try.prog 3 w' K.mb (mapV (setM K.M g n) K.ns)
    rw [e2]
    exact h.map.kept hm
  · refine seg_mono _ _ _ h.ring fun x y _ _ hxy => ?_
    unfold Lnk
    rw [(e1 x).2.1, (e1 y).1]
    exact hxy
  · refine ⟨by rw [hsz]; exact h.ok.size, ?_, ?_, by rw [hpos]; exact h.ok.nodup⟩
    · have : s'.row.length = s.row.length := by rw [hrow, h.holds]; simp
      rw [this, hsz]
      exact h.ok.len
    · intro x hx
      rw [hrow] at hx
      obtain ⟨y, hy, rfl⟩ := List.mem_map.1 hx
      have h1 := h.ok.pos (hld K.M y) (by rw [h.holds]; exact List.mem_map.2 ⟨y, hy, rfl⟩)
      by_cases e : y = g
      · subst e
        refine ⟨?_, ?_⟩
        · show inTop (setM K.M y n y).pos
          rw [(e1 y).2.2]
          exact h1.1
        · show Can (setM K.M y n y).dat
          rw [setM_same]
          exact hcan
      · unfold hld
        rw [setM_other _ _ _ e]
        exact h1
theorem hld_set {K : KLoc} (hn : K.ns.Nodup) {p q : List Nat} {g : Nat} (hns : K.ns = p ++ g :: q) (n : Nd) : K.ns.map (hld (setM K.M g n)) = p.map (hld K.M) ++ ⟨n.pos, n.fast, n.dat⟩ :: q.map (hld K.M) := by
  rw [hns] at hn ⊢
  have hg : ∀ x ∈ p ++ q, x ≠ g := by
    rintro x hx rfl
    have := (List.perm_middle.nodup_iff).1 hn
    exact (List.nodup_cons.1 this).1 hx
  rw [List.map_append, List.map_cons]
  congr 1
  · refine List.map_congr_left fun x hx => ?_
    unfold hld
    rw [setM_other _ _ _ (hg x (by simp [hx]))]
  · congr 1
    · unfold hld
      rw [setM_same]
    · refine List.map_congr_left fun x hx => ?_
      unfold hld
      rw [setM_other _ _ _ (hg x (by simp [hx]))]
/-- The bytes of a holding are stored. -/
theorem CacheAt.bytes (h : CacheAt w K s) {p q : List Nat} {g : Nat} (hns : K.ns = p ++ g :: q) {f : Nat → Int} (hf : Can f) :
    CacheAt (w.setCells g 4 (blk f).toList) { K with M := setM K.M g { K.M g with dat := f } } { s with row := p.map (hld K.M) ++ ⟨(K.M g).pos, (K.M g).fast, f⟩ :: q.map (hld K.M) } ∧ Fr (fun i => i = g) w (w.setCells g 4 (blk f).toList) := by
  have hgm : g ∈ K.ns := by rw [hns]; simp
  have hF := Fr.setCells w g 4 (blk f).toList
  have hset := hld_set (List.nodup_cons.1 h.nd).2 hns { K.M g with dat := f }
  refine ⟨h.turn hgm { K.M g with dat := f } ⟨rfl, rfl, rfl⟩ rfl hset.symm hf ?_ ?_ ?_, hF⟩
  · refine (heap_setCells g _ _ w K.c (h.cne (.inr hgm)).symm).trans ?_
    rw [h.row]
    have e1 : fastN (p.map (hld K.M) ++ ⟨(K.M g).pos, (K.M g).fast, f⟩ :: q.map (hld K.M)) = fastN s.row := by
      rw [h.holds, hns]
      simp [fastN, List.countP_append, List.countP_cons, hld]
    unfold ckRow
    simp only [e1]
  · exact heap_setCells g _ _ w K.mb (h.mne (.inr hgm)).symm
  · intro x hx
    by_cases e : x = g
    · subst e
      rw [setM_same]
      exact (h.nodes x hx).setD f
    · rw [setM_other _ _ _ e]
      exact (heap_setCells g _ _ w x e).trans (h.nodes x hx)
/-- The flag of a holding is stored, and the count. -/
theorem CacheAt.flag (h : CacheAt w K s) {p q : List Nat} {g : Nat} (hns : K.ns = p ++ g :: q) (b : Bool) {m : Int}
    (hm : m = (fastN (p.map (hld K.M) ++ ⟨(K.M g).pos, b, (K.M g).dat⟩ :: q.map (hld K.M)) : Nat)) {w' : World} (hw : w' = (w.setCell ⟨g, 1, none⟩ (.bool b)).setCell ⟨K.c, 5, none⟩ (.int .i64 m)) :
    CacheAt w' { K with M := setM K.M g { K.M g with fast := b } } { s with row := p.map (hld K.M) ++ ⟨(K.M g).pos, b, (K.M g).dat⟩ :: q.map (hld K.M) } ∧ Fr K.has w w' := by
  subst hw
  have hgm : g ∈ K.ns := by rw [hns]; simp
  have hF : Fr K.has w ((w.setCell ⟨g, 1, none⟩ (.bool b)).setCell ⟨K.c, 5, none⟩ (.int .i64 m)) :=
    ((Fr.setCell w g 1 (.bool b)).mono (T' := K.has) fun i _ q => by rw [q]; exact .inr (.inr (.inr hgm))).trans (Fr.setCell _ K.c 5 _) fun i _ q => .inl q
  have hset := hld_set (List.nodup_cons.1 h.nd).2 hns { K.M g with fast := b }
  have hcan : Can (K.M g).dat := (h.ok.pos (hld K.M g) (by rw [h.holds]; exact List.mem_map.2 ⟨g, hgm, rfl⟩)).2
  refine ⟨h.turn hgm { K.M g with fast := b } ⟨rfl, rfl, rfl⟩ rfl hset.symm hcan ?_ ?_ ?_, hF⟩
  · have h1 : (w.setCell ⟨g, 1, none⟩ (.bool b)).heap[K.c]? = some (.cells (ckRow K s) 73) := (Below.heap_setCell w _ _ K.c (h.cne (.inr hgm)).symm).trans h.row
    rw [Joins.block_setCell h1, hm]
    rfl
  · refine (Below.heap_setCell _ _ _ K.mb h.cm.symm).trans (Below.heap_setCell w _ _ K.mb (h.mne (.inr hgm)).symm)
  · intro x hx
    refine (Below.heap_setCell _ _ _ x (h.cne hx)).trans ?_
    by_cases e : x = g
    · subst e
      rw [setM_same]
      exact (h.nodes x hx).set1 b
    · rw [setM_other _ _ _ e]
      exact (Below.heap_setCell w _ _ x e).trans (h.nodes x hx)
end Go.Proofs.Ytencclpcebpgmaa
/- Read of a cache, in one form; no condition but that numbers do not pass their greatest. -/
namespace Go.Proofs.Ytencclpcebpgmaa
open Go.RowKit Go.Maps
variable {w : World} {K : KLoc} {L : Loc} {s : CSt} {t : St}

def rdB (s : CSt) (t : St) (k : Int) : Nat → Int := if usedE s t k = 0 then (match atR s.row k with | some h => h.dat | none => curV t k) else nought
def rdC (s : CSt) (t : St) (k : Int) : CSt := if usedE s t k = 0 then (match atR s.row k with | some h => { s with row := goneR s.row k ++ [h] } | none => { s with row := placeR s.size s.row ++ [⟨k, false, curV t k⟩] }) else s
def rdD (s : CSt) (t : St) (k : Int) : St := if usedE s t k = 0 then (match atR s.row k with | some _ => t | none => readS t) else t
theorem curV_can (ok : Ok t) (k : Int) : Can (curV t k) := by
  cases hl : lastAt t.wait k with
  | some i =>
    obtain ⟨c, hc, _⟩ := lastAt_spec k _ i hl
    rw [curV_wait hl hc]
    exact (ok.wait c (List.mem_of_getElem? hc)).2
  | none =>
    rw [curV_held hl]
    cases hh : t.held k with
    | some f => exact (ok.held k f hh).2.1
    | none => exact can_nought
theorem used_ref {k : Int} (hu : usedE s t k = 0) : refV t k = 0 := by
  apply Classical.byContradiction
  intro hb
  unfold usedE at hu
  rw [if_pos hb] at hu
  exact hb hu
theorem map_snoc {f : Nat → Hld} {l : List Nat} {g : Nat} {r : List Hld} {x : Hld} (h : r ++ [x] = (l ++ [g]).map f) : r = l.map f ∧ x = f g := by
  rw [List.map_append] at h
  exact List.append_inj' h rfl |>.imp id (fun q => by simpa using q)
/-- The last one's bytes are stored. -/
theorem CD.bytesLast {sz : Int} {r : List Hld} {x : Hld} (h : CD w K L ⟨sz, r ++ [x]⟩ t) {l : List Nat} {g : Nat} (hns : K.ns = l ++ [g]) {f : Nat → Int} (hf : Can f) :
    ∃ K', CD (w.setCells g 4 (blk f).toList) K' L ⟨sz, r ++ [⟨x.pos, x.fast, f⟩]⟩ t ∧ GoesC w (w.setCells g 4 (blk f).toList) K L K' L ∧ K'.ns = K.ns ∧ K'.c = K.c ∧ hld K'.M g = ⟨x.pos, x.fast, f⟩ := by
  have h1 := h.cache.holds
  rw [hns] at h1
  obtain ⟨rfl, rfl⟩ := map_snoc h1
  obtain ⟨a1, a2⟩ := h.cache.bytes (p := l) (q := []) (g := g) hns hf
  have hgm : K.has g := .inr (.inr (.inr (by rw [hns]; simp)))
  obtain ⟨b1, b2⟩ := h.caches a1 rfl rfl (fun _ q => .inl q) (a2.mono fun i _ q => by rw [q]; exact hgm)
  refine ⟨_, b1, b2, rfl, rfl, ?_⟩
  show hld (setM K.M g _) g = _
  unfold hld
  rw [setM_same]
/-- A holding of the row, as cells. -/
theorem CD.node {g : Nat} {x : Hld} (h : CD w K L s t) (hg : g ∈ K.ns) (hx : hld K.M g = x) : ∃ p q, RowAt w g x.pos x.fast p q x.dat := by
  subst hx
  exact ⟨_, _, h.cache.nodes g (.inr hg)⟩
/-- A block that is new stays out of it. -/
theorem GoesC.out {a b c : World} {K' : KLoc} {L' : Loc} (h : GoesC a b K L K' L') {g : Nat} (hg : a.heap.size ≤ g) (hf : Fr (fun i => i = g) b c) : GoesC a c K L K' L' :=
  ⟨h.c, h.d, h.ownK, h.ownL, h.fr.trans hf fun i hi q => by omega⟩
/-- What a use of the last answers, with a block that was new ahead of it. -/
theorem CD.setRow {g : Nat} (h : CD w K L s t) (hK : ¬ K.has g) (hL : ¬ L.has g) (cs : Array Value) : CD (w.setRow g cs) K L s t := by
  have hf := Fr.setRow w g cs
  exact ⟨h.cache.fr hf fun k hk e => hK (e ▸ hk), h.disk.fr hf fun k hk e => hL (e ▸ hk), h.d, h.apart⟩
set_option maxRecDepth 20000 in
set_option maxHeartbeats 4000000 in
theorem readC_of (h : CD w K L s t) (hr : Room t) (k : Int) : Calls Try.prog 24 #[ptr K.c, .int .i64 k] w fun e w' => e = .returned (.tuple #[.agg (blk (rdB s t k)), .int .i64 (usedE s t k)]) ∧
    ∃ K' L', CD w' K' L' (rdC s t k) (rdD s t k) ∧ GoesC w w' K L K' L' := by
  have hA := h.later (below_new w (.cells (blk nought) 59))
  have hA0 := GoesC.ofBelow K L (below_new w (.cells (blk nought) 59))
  have R0 := heap_alloc_new w (.cells (blk nought) 59)
  have hltK : ∀ i, K.has i → i < w.heap.size := h.cache.lt
  have hltL : ∀ i, L.has i → i < w.heap.size := h.disk.lt
  have hs0 : (w.alloc (.cells (blk nought) 59)).heap.size = w.heap.size + 1 := by simp
  have z25 := zero25
  have hbd := built58
  unfold rdB rdC rdD
  by_cases hu : usedE s t k = 0
  · rw [if_pos hu, if_pos hu, if_pos hu, hu]
    have hb := used_ref hu
    have hU := use_ok hA hu
    cases ha : atR s.row k with
    | some x =>
      have eP : useP s k = (goneR s.row k, x, false) := by unfold useP; rw [ha]
      rw [eP] at hU
      have HF : Hid (∀ W1 K1 g l, K1.ns = l ++ [g] → hld K1.M g = x → CD W1 K1 L { s with row := goneR s.row k ++ [x] } t → GoesC (w.alloc (.cells (blk nought) 59)) W1 K L K1 L →
          BlkAt W1 g 4 x.dat ∧ W1.heap[w.heap.size]? = some (.cells (blk nought) 59) ∧ ∃ K' L', CD (W1.setRow w.heap.size (blk x.dat)) K' L' { s with row := goneR s.row k ++ [x] } t ∧ GoesC w (W1.setRow w.heap.size (blk x.dat)) K L K' L') := by
        intro W1 K1 g l hns hx h1 hG
        obtain ⟨pp, qq, hrow⟩ := h1.node (g := g) (by rw [hns]; simp) hx
        have hnK : ¬ K1.has w.heap.size := fun q => by
          rcases hG.ownK _ q with q | q
          · have := hltK _ q; omega
          · omega
        have hnL : ¬ L.has w.heap.size := fun q => by have := hltL _ q; omega
        refine ⟨hrow.bytes, (hG.fr.block _ (by omega) ?_).trans R0, K1, L, h1.setRow hnK hnL _, ?_⟩
        · rintro (q | q)
          · have := hltK _ q; omega
          · exact hnL q
        · exact (hA0.trans hG).out (Nat.le_refl _) (Fr.setRow _ _ _)
      clear h hA hA0 R0 hltK hltL hs0 hu ha eP hb
      generalize nought = N at *
      have HU : Hid (Calls Try.prog 53 _ _ _) := hU
      clear hU
      unfold ptr
      go_enter Try.func24, Try.ntmps24
      go_wp2_with (go_at_call 53; fail)
      refine HU.out.mono ?_
      rintro e W1 ⟨K1, g, l, rfl, hns, hx, h1, hG⟩
      obtain ⟨hB, hR0, hfin⟩ := HF.out W1 K1 g l hns hx h1 hG
      have HFin : Hid _ := hfin
      clear HU HF hns hx h1 hG hfin
      generalize w.heap.size = g0 at *
      unfold ptr
      go_wp2_with (first | refine wpList_loadM rfl (.tmp 35) rfl g 4 rfl x.dat hB ?_ | refine wpList_store25 rfl (.tmp 4) (.tmp 36) rfl g0 x.dat rfl rfl _ hR0 ?_)
      exact retBT rfl g0 x.dat rfl (setRow_heap _ _ _ _ _ _ hR0) rfl ⟨rfl, HFin.out⟩
    | none =>
      have eP : useP s k = (placeR s.size s.row, ⟨k, false, nought⟩, true) := by unfold useP; rw [ha]
      rw [eP] at hU
      have hcan := curV_can h.disk.ok k
      generalize hF0 : curV t k = f at *
      have HF : Hid (∀ W1 K1 g l, K1.ns = l ++ [g] → CD W1 K1 L { s with row := placeR s.size s.row ++ [⟨k, false, nought⟩] } t → GoesC (w.alloc (.cells (blk nought) 59)) W1 K L K1 L →
          W1.cell? ⟨K.c, 1, none⟩ = some (ptr L.d) ∧ Calls Try.prog 37 #[ptr L.d, .int .i64 k] W1 fun e W2 => e = .returned (.tuple #[.agg (blk f), .int .i64 0]) ∧ W2.there g 4 1024 ∧ BlkAt (W2.setCells g 4 (blk f).toList) g 4 f ∧
          (W2.setCells g 4 (blk f).toList).heap[w.heap.size]? = some (.cells (blk nought) 59) ∧ ∃ K' L', CD ((W2.setCells g 4 (blk f).toList).setRow w.heap.size (blk f)) K' L' { s with row := placeR s.size s.row ++ [⟨k, false, f⟩] } (readS t) ∧
            GoesC w ((W2.setCells g 4 (blk f).toList).setRow w.heap.size (blk f)) K L K' L') := by
        intro W1 K1 g l hns h1 hG
        refine ⟨?_, ?_⟩
        · have := h1.cache.c1
          rw [hG.c, h1.d] at this
          exact this
        · have hrd := read_ok h1.disk hr hb
          rw [hF0] at hrd
          refine hrd.mono ?_
          rintro e W2 ⟨rfl, hD2, hG2⟩
          obtain ⟨b1, b2⟩ := h1.disks hD2 hG2
          obtain ⟨K3, c1, c2, c3, c4, c5⟩ := b1.bytesLast hns hcan
          have hgm : g ∈ K1.ns := by rw [hns]; simp
          have hg1 := b1.cache.nodes g (.inr hgm)
          obtain ⟨pp, qq, hrow3⟩ := c1.node (g := g) (by rw [c3]; exact hgm) c5
          have hG3 := hG.trans (b2.trans c2)
          have hnK : ¬ K3.has w.heap.size := fun q => by
            rcases hG3.ownK _ q with q | q
            · have := hltK _ q; omega
            · omega
          have hnL : ¬ L.has w.heap.size := fun q => by have := hltL _ q; omega
          refine ⟨rfl, hg1.there, hrow3.bytes, (hG3.fr.block _ (by omega) ?_).trans R0, K3, L, c1.setRow hnK hnL _, (hA0.trans hG3).out (Nat.le_refl _) (Fr.setRow _ _ _)⟩
          rintro (q | q)
          · have := hltK _ q; omega
          · exact hnL q
      clear h hA hA0 R0 hltK hltL hs0 hu ha eP hb hF0 hcan hr
      have HU : Hid (Calls Try.prog 53 _ _ _) := hU
      clear hU
      generalize nought = N at *
      unfold ptr
      go_enter Try.func24, Try.ntmps24
      go_wp2_with (go_at_call 53; fail)
      refine HU.out.mono ?_
      rintro e W1 ⟨K1, g, l, rfl, hns, hx, h1, hG⟩
      obtain ⟨d1, hcall⟩ := HF.out W1 K1 g l hns h1 hG
      have HC : Hid (Calls Try.prog 37 _ _ _) := hcall
      clear HU HF hns hx h1 hG hcall
      generalize w.heap.size = g0 at *
      unfold ptr at d1 ⊢
      go_wp2_with (go_at_call 37; fail)
      refine HC.out.mono ?_
      rintro e W2 ⟨rfl, hth, hB, hR0, hfin⟩
      have HFin : Hid _ := hfin
      clear hfin HC
      generalize hW3 : W2.setCells g 4 (blk f).toList = W3 at *
      go_wp2_with (first | (refine wpList_storeM rfl (.tmp 32) (.tmp 29) rfl rfl f rfl hth ?_; rw [hW3]) | refine wpList_loadM rfl (.tmp 35) rfl g 4 rfl f hB ?_ | refine wpList_store25 rfl (.tmp 4) (.tmp 36) rfl g0 f rfl rfl _ hR0 ?_)
      exact retBT rfl g0 f rfl (setRow_heap _ _ _ _ _ _ hR0) rfl ⟨rfl, HFin.out⟩
  · rw [if_neg hu, if_neg hu, if_neg hu]
    have hU := use_err hA hu
    have hne : (usedE s t k != 0) = true := by simp [hu]
    have HF : Hid (∀ W1, Below (w.alloc (.cells (blk nought) 59)).heap.size (w.alloc (.cells (blk nought) 59)) W1 → W1.heap[w.heap.size]? = some (.cells (blk nought) 59) ∧ ∃ K' L', CD (W1.setRow w.heap.size (blk nought)) K' L' s t ∧ GoesC w (W1.setRow w.heap.size (blk nought)) K L K' L') := by
      intro W1 hB
      have hnK : ¬ K.has w.heap.size := fun q => by have := hltK _ q; omega
      have hnL : ¬ L.has w.heap.size := fun q => by have := hltL _ q; omega
      exact ⟨(hB.block _ (by omega)).trans R0, K, L, (hA.later hB).setRow hnK hnL _, (hA0.trans (GoesC.ofBelow K L hB)).out (Nat.le_refl _) (Fr.setRow _ _ _)⟩
    clear h hA hA0 R0 hltK hltL hs0 hu
    generalize nought = N at *
    generalize usedE s t k = E at *
    have HU : Hid (Calls Try.prog 53 _ _ _) := hU
    clear hU
    unfold ptr
    go_enter Try.func24, Try.ntmps24
    go_wp2_with (go_at_call 53; fail)
    refine HU.out.mono ?_
    rintro e W1 ⟨rfl, hB⟩
    obtain ⟨hR0, hfin⟩ := HF.out W1 hB
    have HFin : Hid _ := hfin
    clear HU HF hB hfin
    generalize w.heap.size = g0 at *
    unfold nilp
    go_wp2_with (first | refine wpList_build58 rfl rfl hbd ?_ | refine wpList_store25 rfl (.tmp 4) (.tmp 18) rfl g0 N rfl rfl _ hR0 ?_)
    exact retBT rfl g0 N rfl (setRow_heap _ _ _ _ _ _ hR0) rfl ⟨rfl, HFin.out⟩
end Go.Proofs.Ytencclpcebpgmaa
/- Put of a cache, in one form; no condition. -/
namespace Go.Proofs.Ytencclpcebpgmaa
open Go.RowKit Go.Maps
variable {w : World} {K : KLoc} {L : Loc} {s : CSt} {t : St}

def putC (s : CSt) (t : St) (k : Int) (f : Nat → Int) : CSt := if usedE s t k = 0 then { s with row := (useP s k).1 ++ [⟨k, true, f⟩] } else s
theorem useP_pos (s : CSt) (k : Int) : (useP s k).2.1.pos = k := by
  unfold useP
  cases ha : atR s.row k with
  | some x =>
    have := List.find?_some ha
    simpa using this
  | none => rfl
/-- The last one is held fast. -/
theorem CD.fastLast {sz : Int} {r : List Hld} {x : Hld} (h : CD w K L ⟨sz, r ++ [x]⟩ t) {l : List Nat} {g : Nat} (hns : K.ns = l ++ [g]) (hx : x.fast = false) {m : Int} (hm : m = (fastN (r ++ [x]) : Int) + 1) :
    ∃ K', CD ((w.setCell ⟨g, 1, none⟩ (.bool true)).setCell ⟨K.c, 5, none⟩ (.int .i64 m)) K' L ⟨sz, r ++ [⟨x.pos, true, x.dat⟩]⟩ t ∧ GoesC w ((w.setCell ⟨g, 1, none⟩ (.bool true)).setCell ⟨K.c, 5, none⟩ (.int .i64 m)) K L K' L := by
  have h1 := h.cache.holds
  rw [hns] at h1
  obtain ⟨rfl, rfl⟩ := map_snoc h1
  have hx' : (K.M g).fast = false := hx
  obtain ⟨a1, a2⟩ := h.cache.flag (p := l) (q := []) (g := g) hns true (m := m) (by
    rw [hm]
    simp [fastN, List.countP_append, hld, hx']) rfl
  obtain ⟨b1, b2⟩ := h.caches a1 rfl rfl (fun _ q => .inl q) a2
  exact ⟨_, b1, b2⟩
set_option maxRecDepth 20000 in
set_option maxHeartbeats 4000000 in
theorem putC_of (h : CD w K L s t) (k : Int) {f : Nat → Int} (hf : Can f) : Calls Try.prog 25 #[ptr K.c, .int .i64 k, .agg (blk f)] w fun e w' => e = .returned (.int .i64 (usedE s t k)) ∧
    ∃ K' L', CD w' K' L' (putC s t k f) t ∧ GoesC w w' K L K' L' := by
  have hA := h.later (below_new w (.cells (blk f) 59))
  have hA0 := GoesC.ofBelow K L (below_new w (.cells (blk f) 59))
  have R0 := heap_alloc_new w (.cells (blk f) 59)
  have hltK : ∀ i, K.has i → i < w.heap.size := h.cache.lt
  have hltL : ∀ i, L.has i → i < w.heap.size := h.disk.lt
  have hs0 : (w.alloc (.cells (blk f) 59)).heap.size = w.heap.size + 1 := by simp
  unfold putC
  by_cases hu : usedE s t k = 0
  · rw [if_pos hu, hu]
    have hU := use_ok hA hu
    have hpos := useP_pos s k
    generalize (useP s k).1 = r at *
    generalize (useP s k).2.2 = nw at *
    generalize (useP s k).2.1 = x at *
    have HF : Hid (∀ W1 K1 g l, K1.ns = l ++ [g] → hld K1.M g = x → CD W1 K1 L ⟨s.size, r ++ [x]⟩ t → GoesC (w.alloc (.cells (blk f) 59)) W1 K L K1 L →
        W1.heap[w.heap.size]? = some (.cells (blk f) 59) ∧ W1.there g 4 1024 ∧ K.c ≠ g ∧
        (W1.setCells g 4 (blk f).toList).cell? ⟨g, 1, none⟩ = some (.bool x.fast) ∧ (W1.setCells g 4 (blk f).toList).frozen? ⟨g, 1, none⟩ = false ∧
        (W1.setCells g 4 (blk f).toList).cell? ⟨K.c, 5, none⟩ = some (.int .i64 (fastN (r ++ [x]) : Int)) ∧ (W1.setCells g 4 (blk f).toList).frozen? ⟨K.c, 5, none⟩ = false ∧ (fastN (r ++ [x]) : Int) ≤ 4096 ∧
        (x.fast = true → ∃ K' L', CD (W1.setCells g 4 (blk f).toList) K' L' { s with row := r ++ [⟨k, true, f⟩] } t ∧ GoesC w (W1.setCells g 4 (blk f).toList) K L K' L') ∧
        (x.fast = false → ∃ K' L', CD (((W1.setCells g 4 (blk f).toList).setCell ⟨g, 1, none⟩ (.bool true)).setCell ⟨K.c, 5, none⟩ (.int .i64 ((fastN (r ++ [x]) : Int) + 1))) K' L' { s with row := r ++ [⟨k, true, f⟩] } t ∧
          GoesC w (((W1.setCells g 4 (blk f).toList).setCell ⟨g, 1, none⟩ (.bool true)).setCell ⟨K.c, 5, none⟩ (.int .i64 ((fastN (r ++ [x]) : Int) + 1))) K L K' L')) := by
      intro W1 K1 g l hns hx h1 hG
      have hgm : g ∈ K1.ns := by rw [hns]; simp
      have hnd := h1.cache.nodes g (.inr hgm)
      obtain ⟨K3, c1, c2, c3, c4, c5⟩ := h1.bytesLast hns hf
      obtain ⟨pp, qq, hrow3⟩ := c1.node (g := g) (by rw [c3]; exact hgm) c5
      have hfn : fastN (r ++ [⟨x.pos, x.fast, f⟩]) = fastN (r ++ [x]) := by simp [fastN, List.countP_append]
      have hcc : K3.c = K.c := c4.trans hG.c
      have d5 := c1.cache.c5
      have ff := c1.cache.free 5
      rw [hcc] at d5 ff
      rw [show (({ size := s.size, row := r ++ [⟨x.pos, x.fast, f⟩] } : CSt)).row = r ++ [⟨x.pos, x.fast, f⟩] from rfl, hfn] at d5
      have hle : (fastN (r ++ [x]) : Int) ≤ 4096 := by
        have a1 := fastN_le (r ++ [x])
        have a2 := h1.cache.ok.len
        have a3 := h1.cache.ok.size
        simp only at a2 a3
        omega
      refine ⟨(hG.fr.block _ (by omega) ?_).trans R0, hnd.there, ?_, hrow3.c1, hrow3.free 1, d5, ff, hle, ?_, ?_⟩
      · rintro (q | q)
        · have := hltK _ q; omega
        · have := hltL _ q; omega
      · rw [← hG.c]
        exact (h1.cache.cne (.inr hgm)).symm
      · intro hx1
        rw [hpos, hx1] at c1
        exact ⟨K3, L, c1, hA0.trans (hG.trans c2)⟩
      · intro hx0
        obtain ⟨K4, e1, e2⟩ := c1.fastLast (by rw [c3]; exact hns) hx0 (m := (fastN (r ++ [x]) : Int) + 1) (by rw [hfn])
        rw [hcc] at e1 e2
        rw [show (⟨x.pos, x.fast, f⟩ : Hld).pos = x.pos from rfl, hpos] at e1
        exact ⟨K4, L, e1, hA0.trans (hG.trans (c2.trans e2))⟩
    clear h hA hA0 R0 hltK hltL hs0 hu hpos hf
    have HU : Hid (Calls Try.prog 53 _ _ _) := hU
    clear hU
    unfold ptr
    go_enter Try.func25, Try.ntmps25
    go_wp2_with (go_at_call 53; fail)
    refine HU.out.mono ?_
    rintro e W1 ⟨K1, g, l, rfl, hns, hx, h1, hG⟩
    obtain ⟨hR0, hth, hcg, g1, fg, d5, ff, hle, hA1, hA2⟩ := HF.out W1 K1 g l hns hx h1 hG
    have H1 : Hid _ := hA1
    have H2 : Hid _ := hA2
    clear HU HF hns hx h1 hG hA1 hA2
    generalize w.heap.size = g0 at *
    generalize hW3 : W1.setCells g 4 (blk f).toList = W3 at *
    generalize fastN (r ++ [x]) = n at *
    have hw5 : IntKind.i64.wrap ((n : Int) + 1) = (n : Int) + 1 := by rw [IntKind.wrap_i64]; omega
    unfold ptr
    cases hxf : x.fast
    · rw [hxf] at g1
      have H3 := H2.out hxf
      have H4 : Hid _ := H3
      clear H1 H2 H3
      go_wp2_with (first | (refine wpList_load25 rfl (.tmp 5) rfl g0 rfl f hR0 ?_) | (refine wpList_storeM rfl (.tmp 23) (.tmp 21) rfl rfl f rfl hth ?_; rw [hW3]))
      go_ret
      exact ⟨rfl, H4.out⟩
    · rw [hxf] at g1
      have H3 := H1.out hxf
      have H4 : Hid _ := H3
      clear H1 H2 H3
      go_wp2_with (first | (refine wpList_load25 rfl (.tmp 5) rfl g0 rfl f hR0 ?_) | (refine wpList_storeM rfl (.tmp 23) (.tmp 21) rfl rfl f rfl hth ?_; rw [hW3]))
      go_ret
      exact ⟨rfl, H4.out⟩
  · rw [if_neg hu]
    have hU := use_err hA hu
    have hne : (usedE s t k != 0) = true := by simp [hu]
    have HF : Hid (∀ W1, Below (w.alloc (.cells (blk f) 59)).heap.size (w.alloc (.cells (blk f) 59)) W1 → ∃ K' L', CD W1 K' L' s t ∧ GoesC w W1 K L K' L') := fun W1 hB => ⟨K, L, hA.later hB, hA0.trans (GoesC.ofBelow K L hB)⟩
    clear h hA hA0 R0 hltK hltL hs0 hu hf
    generalize usedE s t k = E at *
    have HU : Hid (Calls Try.prog 53 _ _ _) := hU
    clear hU
    unfold ptr
    go_enter Try.func25, Try.ntmps25
    go_wp2_with (go_at_call 53; fail)
    refine HU.out.mono ?_
    rintro e W1 ⟨rfl, hB⟩
    have HFin : Hid _ := HF.out W1 hB
    clear HU HF hB
    unfold nilp
    go_wp2
    go_ret
    exact ⟨rfl, HFin.out⟩
end Go.Proofs.Ytencclpcebpgmaa
