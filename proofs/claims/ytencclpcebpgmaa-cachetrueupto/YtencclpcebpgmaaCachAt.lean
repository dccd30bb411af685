/- A cache beside its disk; what it tells of itself, and whom it refuses; no condition. -/
import Derived.Test.YtencclpcebpgmaaCach
namespace Go.Proofs.Ytencclpcebpgmaa
open Go.RowKit Go.Maps

/-- What holds of every cache. -/
structure COk (s : CSt) : Prop where
  size : 1 ≤ s.size ∧ s.size ≤ 4096
  len : (s.row.length : Int) ≤ s.size
  pos : ∀ h ∈ s.row, inTop h.pos ∧ Can h.dat
  nodup : (s.row.map (·.pos)).Nodup
def ckRow (K : KLoc) (s : CSt) : Array Value := #[ptr K.c, ptr K.d, .int .i64 s.size, .map (some K.mb), ptr K.e, .int .i64 (fastN s.row : Int)]
structure CacheAt (w : World) (K : KLoc) (s : CSt) : Prop where
  row : w.heap[K.c]? = some (.cells (ckRow K s) 73)
  map : MapIs Try.prog 3 w K.mb (mapV K.M K.ns)
  nodes : Nodes w K.M (fun g => g = K.e ∨ g ∈ K.ns)
  ring : seg (Lnk K.M) K.e K.ns K.e
  nd : (K.e :: K.ns).Nodup
  holds : s.row = K.ns.map (hld K.M)
  ok : COk s
variable {w : World} {K : KLoc} {s : CSt}
theorem CacheAt.len (h : CacheAt w K s) : s.row.length = K.ns.length := by rw [h.holds]; simp
theorem CacheAt.posNd (h : CacheAt w K s) : (K.ns.map (posOf K.M)).Nodup := by
  have := h.ok.nodup
  rw [h.holds, List.map_map] at this
  exact this
theorem CacheAt.lt (h : CacheAt w K s) (k : Nat) (hk : K.has k) : k < w.heap.size := by
  rcases hk with rfl | rfl | hk
  · exact (Array.getElem?_eq_some_iff.1 h.row).1
  · exact h.map.lt
  · exact (Array.getElem?_eq_some_iff.1 (h.nodes k hk)).1
theorem CacheAt.kept {w' : World} (h : CacheAt w K s) (hb : ∀ k, K.has k → w'.heap[k]? = w.heap[k]?) : CacheAt w' K s :=
  ⟨(hb _ (.inl rfl)).trans h.row, h.map.kept (hb _ (.inr (.inl rfl))), h.nodes.kept fun g hg => hb g (.inr (.inr hg)), h.ring, h.nd, h.holds, h.ok⟩
theorem CacheAt.fr {w' : World} {T : Nat → Prop} (h : CacheAt w K s) (hf : Fr T w w') (hT : ∀ k, K.has k → ¬ T k) : CacheAt w' K s :=
  h.kept fun k hk => hf.block k (h.lt k hk) (hT k hk)
theorem CacheAt.cell (h : CacheAt w K s) (i : Nat) : w.cell? ⟨K.c, i, none⟩ = (ckRow K s)[i]? := Joins.cell_of_block h.row i
theorem CacheAt.free (h : CacheAt w K s) (i : Nat) : w.frozen? ⟨K.c, i, none⟩ = false := Joins.unfrozen_of_block h.row i
theorem CacheAt.c0 (h : CacheAt w K s) : w.cell? ⟨K.c, 0, none⟩ = some (ptr K.c) := h.cell 0
theorem CacheAt.c1 (h : CacheAt w K s) : w.cell? ⟨K.c, 1, none⟩ = some (ptr K.d) := h.cell 1
theorem CacheAt.c2 (h : CacheAt w K s) : w.cell? ⟨K.c, 2, none⟩ = some (.int .i64 s.size) := h.cell 2
theorem CacheAt.c3 (h : CacheAt w K s) : w.cell? ⟨K.c, 3, none⟩ = some (.map (some K.mb)) := h.cell 3
theorem CacheAt.c4 (h : CacheAt w K s) : w.cell? ⟨K.c, 4, none⟩ = some (ptr K.e) := h.cell 4
theorem CacheAt.c5 (h : CacheAt w K s) : w.cell? ⟨K.c, 5, none⟩ = some (.int .i64 (fastN s.row : Int)) := h.cell 5
theorem CacheAt.cne (h : CacheAt w K s) {g : Nat} (hg : g = K.e ∨ g ∈ K.ns) : g ≠ K.c := by
  rintro rfl
  have h1 := h.nodes _ hg
  have h2 := h.row
  unfold RowAt at h1
  rw [h2] at h1
  injection h1 with h1
  injection h1 with _ h1
  cases h1
theorem CacheAt.mne (h : CacheAt w K s) {g : Nat} (hg : g = K.e ∨ g ∈ K.ns) : g ≠ K.mb := by
  rintro rfl
  have h1 := h.nodes _ hg
  obtain ⟨es, cl, h2⟩ := h.map.isMap
  unfold RowAt at h1
  rw [h2] at h1
  cases h1
theorem CacheAt.cm (h : CacheAt w K s) : K.c ≠ K.mb := by
  intro e
  have h1 := h.row
  obtain ⟨es, cl, h2⟩ := h.map.isMap
  rw [e, h2] at h1
  cases h1
/-- A cache beside its disk. -/
structure CD (w : World) (K : KLoc) (L : Loc) (s : CSt) (t : St) : Prop where
  cache : CacheAt w K s
  disk : DiskAt w L t
  d : K.d = L.d
  apart : ∀ k, K.has k → ¬ L.has k
structure GoesC (w w' : World) (K : KLoc) (L : Loc) (K' : KLoc) (L' : Loc) : Prop where
  c : K'.c = K.c
  d : L'.d = L.d
  ownK : ∀ k, K'.has k → K.has k ∨ w.heap.size ≤ k
  ownL : ∀ k, L'.has k → L.has k ∨ w.heap.size ≤ k
  fr : Fr (fun k => K.has k ∨ L.has k) w w'
theorem GoesC.refl (w : World) (K : KLoc) (L : Loc) : GoesC w w K L K L := ⟨rfl, rfl, fun _ h => .inl h, fun _ h => .inl h, Fr.refl _ _⟩
theorem GoesC.ofBelow {w w' : World} (K : KLoc) (L : Loc) (h : Below w.heap.size w w') : GoesC w w' K L K L := ⟨rfl, rfl, fun _ h => .inl h, fun _ h => .inl h, Fr.ofBelow h⟩
theorem GoesC.trans {a b c : World} {K K' K'' : KLoc} {L L' L'' : Loc} (h : GoesC a b K L K' L') (k : GoesC b c K' L' K'' L'') : GoesC a c K L K'' L'' := by
  have hs := h.fr.size
  refine ⟨k.c.trans h.c, k.d.trans h.d, fun i hi => ?_, fun i hi => ?_, h.fr.trans k.fr fun i hi hk => ?_⟩
  · rcases k.ownK i hi with h1 | h1
    · exact h.ownK i h1
    · exact .inr (by omega)
  · rcases k.ownL i hi with h1 | h1
    · exact h.ownL i h1
    · exact .inr (by omega)
  · rcases hk with hk | hk
    · rcases h.ownK i hk with h1 | h1
      · exact .inl h1
      · omega
    · rcases h.ownL i hk with h1 | h1
      · exact .inr h1
      · omega
theorem CD.later {L : Loc} {t : St} {w' : World} (h : CD w K L s t) (hb : Below w.heap.size w w') : CD w' K L s t :=
  ⟨h.cache.kept fun k hk => hb.block k (h.cache.lt k hk), h.disk.later hb, h.d, h.apart⟩
/-- The disk alone has turned. -/
theorem CD.disks {L L' : Loc} {t t' : St} {w' : World} (h : CD w K L s t) (hD : DiskAt w' L' t') (hG : Goes w w' L L') : CD w' K L' s t' ∧ GoesC w w' K L K L' := by
  refine ⟨⟨h.cache.fr hG.fr h.apart, hD, h.d.trans hG.d.symm, fun k hk hl => ?_⟩, ⟨rfl, hG.d, fun _ q => .inl q, hG.own, hG.fr.mono fun _ _ q => .inr q⟩⟩
  rcases hG.own k hl with q | q
  · exact h.apart k hk q
  · have := h.cache.lt k hk; omega
/-- The cache alone has turned. -/
theorem CD.caches {K' : KLoc} {L : Loc} {t : St} {s' : CSt} {w' : World} (h : CD w K L s t) (hC : CacheAt w' K' s') (hc : K'.c = K.c) (hd : K'.d = K.d) (ho : ∀ k, K'.has k → K.has k ∨ w.heap.size ≤ k) (hf : Fr K.has w w') :
    CD w' K' L s' t ∧ GoesC w w' K L K' L := by
  refine ⟨⟨hC, h.disk.fr hf fun k hk hl => h.apart k hl hk, hd.trans h.d, fun k hk hl => ?_⟩, ⟨hc, rfl, ho, fun _ q => .inl q, hf.mono fun _ _ q => .inl q⟩⟩
  rcases ho k hk with q | q
  · exact h.apart k q hl
  · have := h.disk.lt k hl; omega
theorem info73 : ∃ j, Try.prog.info? 73 = some j := Option.isSome_iff_exists.1 (by kernel_rfl)
theorem neq30 (w : World) (a : Addr) : (binOp .neq 30 (.pointer (some a)) (.pointer (some a))).run Try.prog w = .ok (.bool false) w := by
  obtain ⟨j, hj⟩ := info73
  exact neq_same w a Try.underlying30 hj
theorem neq30n (w : World) (a : Addr) : (binOp .neq 30 (.pointer none) (.pointer (some a))).run Try.prog w = .ok (.bool true) w := neq_nil w a Try.underlying30
theorem noneC_yes {v : Value} (h : NoneAt w v) : Calls Try.prog 55 #[v] w fun e w' => e = .returned (.bool true) ∧ w' = w := by
  have hn := neq30n
  rcases h with rfl | ⟨g, rfl, c0⟩
  · go_enter Try.func55, Try.ntmps55
    go_wp2
    go_ret
    exact ⟨rfl, rfl⟩
  · go_enter Try.func55, Try.ntmps55
    go_wp2
    go_ret
    exact ⟨rfl, rfl⟩
theorem noneC_no {c : Nat} (c0 : w.cell? ⟨c, 0, none⟩ = some (ptr c)) : Calls Try.prog 55 #[ptr c] w fun e w' => e = .returned (.bool false) ∧ w' = w := by
  have hn := neq30
  unfold ptr at *
  go_enter Try.func55, Try.ntmps55
  go_wp2
  go_ret
  exact ⟨rfl, rfl⟩
theorem fast_of (h : CacheAt w K s) : Calls Try.prog 27 #[ptr K.c] w fun e w' => e = .returned (.int .i64 (fastN s.row : Int)) ∧ w' = w := by
  have h0 := noneC_no h.c0
  have c5 := h.c5
  clear h
  unfold ptr at *
  go_enter Try.func27, Try.ntmps27
  go_wp2_with (first | (go_at_call 55; refine h0.mono ?_; rintro e W ⟨rfl, rfl⟩))
  go_ret
  exact ⟨rfl, rfl⟩
theorem fast_none {v : Value} (h : NoneAt w v) : Calls Try.prog 27 #[v] w fun e w' => e = .returned (.int .i64 0) ∧ w' = w := by
  have h0 := noneC_yes h
  go_enter Try.func27, Try.ntmps27
  go_wp2_with (first | (go_at_call 55; refine h0.mono ?_; rintro e W ⟨rfl, rfl⟩))
  go_ret
  exact ⟨rfl, rfl⟩
theorem lenC_none {v : Value} (h : NoneAt w v) : Calls Try.prog 29 #[v] w fun e w' => e = .returned (.int .i64 0) ∧ w' = w := by
  have h0 := noneC_yes h
  go_enter Try.func29, Try.ntmps29
  go_wp2_with (first | (go_at_call 55; refine h0.mono ?_; rintro e W ⟨rfl, rfl⟩))
  go_ret
  exact ⟨rfl, rfl⟩
theorem orderC_none {v : Value} (h : NoneAt w v) : Calls Try.prog 31 #[v] w fun e w' => e = .returned (.slice none 0 0) ∧ w' = w := by
  have h0 := noneC_yes h
  go_enter Try.func31, Try.ntmps31
  go_wp2_with (first | (go_at_call 55; refine h0.mono ?_; rintro e W ⟨rfl, rfl⟩))
  go_ret
  exact ⟨rfl, rfl⟩
theorem CacheAt.size_is (h : CacheAt w K s) : ∃ D, w.ownsMap Try.prog 3 valElem K.mb top D ∧ Views D (mapV K.M K.ns) ∧ Maps.size D = s.row.length := by
  obtain ⟨D, h1, h2⟩ := h.map
  exact ⟨D, h1, h2, by rw [h.len]; exact map_size h.posNd h1 h2⟩
theorem len_of_cache (h : CacheAt w K s) : Calls Try.prog 29 #[ptr K.c] w fun e w' => e = .returned (.int .i64 (s.row.length : Int)) ∧ w' = w := by
  have h0 := noneC_no h.c0
  have c3 := h.c3
  obtain ⟨D, hown, _, hsz⟩ := h.size_is
  clear h
  unfold ptr at *
  go_enter Try.func29, Try.ntmps29
  go_wp2_with (first | (go_at_call 55; refine h0.mono ?_; rintro e W ⟨rfl, rfl⟩) | (refine wpList_len_own _ rfl (.tmp 8) 70 rfl 3 71 Try.underlying70 valElem K.mb top D rfl hown ?_))
  go_ret
  exact ⟨rfl, rfl⟩
/-- Whom a cache refuses. -/
theorem refusesC_of {L : Loc} {t : St} (h : CD w K L s t) (k : Int) : Calls Try.prog 54 #[ptr K.c, .int .i64 k] w fun e w' => e = .returned (.int .i64 (refV t k)) ∧ w' = w := by
  have h0 := noneC_no h.cache.c0
  have c1 := h.cache.c1
  have hs := stopped_of h.disk
  have hl := len_of h.disk
  rw [h.d] at c1
  clear h
  unfold ptr at *
  unfold refV
  cases hst : t.stopped
  · rw [hst] at hs
    by_cases h1 : k < 0
    · rw [if_neg (by simp), if_neg (by omega)]
      go_enter Try.func54, Try.ntmps54
      go_wp2_with (first | (go_at_call 55; refine h0.mono ?_; rintro e W ⟨rfl, rfl⟩) | (go_at_call 17; refine hs.mono ?_; rintro e W ⟨rfl, rfl⟩) | (go_at_call 41; refine hl.mono ?_; rintro e W ⟨rfl, rfl⟩))
      go_ret
      exact ⟨rfl, rfl⟩
    · by_cases h2 : t.n ≤ k
      · rw [if_neg (by simp), if_neg (by omega)]
        go_enter Try.func54, Try.ntmps54
        go_wp2_with (first | (go_at_call 55; refine h0.mono ?_; rintro e W ⟨rfl, rfl⟩) | (go_at_call 17; refine hs.mono ?_; rintro e W ⟨rfl, rfl⟩) | (go_at_call 41; refine hl.mono ?_; rintro e W ⟨rfl, rfl⟩))
        go_ret
        exact ⟨rfl, rfl⟩
      · rw [if_neg (by simp), if_pos (by omega)]
        go_enter Try.func54, Try.ntmps54
        go_wp2_with (first | (go_at_call 55; refine h0.mono ?_; rintro e W ⟨rfl, rfl⟩) | (go_at_call 17; refine hs.mono ?_; rintro e W ⟨rfl, rfl⟩) | (go_at_call 41; refine hl.mono ?_; rintro e W ⟨rfl, rfl⟩))
        go_ret
        exact ⟨rfl, rfl⟩
  · rw [hst] at hs
    rw [if_pos rfl]
    go_enter Try.func54, Try.ntmps54
    go_wp2_with (first | (go_at_call 55; refine h0.mono ?_; rintro e W ⟨rfl, rfl⟩) | (go_at_call 17; refine hs.mono ?_; rintro e W ⟨rfl, rfl⟩))
    go_ret
    exact ⟨rfl, rfl⟩
theorem refusesC_none {v : Value} (h : NoneAt w v) (k : Int) : Calls Try.prog 54 #[v, .int .i64 k] w fun e w' => e = .returned (.int .i64 1) ∧ w' = w := by
  have h0 := noneC_yes h
  go_enter Try.func54, Try.ntmps54
  go_wp2_with (first | (go_at_call 55; refine h0.mono ?_; rintro e W ⟨rfl, rfl⟩))
  go_ret
  exact ⟨rfl, rfl⟩
end Go.Proofs.Ytencclpcebpgmaa
