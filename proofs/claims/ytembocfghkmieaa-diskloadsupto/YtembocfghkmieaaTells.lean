/- Pending and History: what is pending, and all that was done, in new memory; for every disk. -/
import Derived.Test.YtembocfghkmieaaCrash
import Derived.Laws.CopyRow
namespace Go.Proofs.Ytembocfghkmieaa
open Go.RowKit
variable {w : World} {L : Loc} {s : St}

/-- n numbers in a row. -/
def iRow (f : Nat → Int) (n : Nat) : Array Value := ((List.range n).map fun i => Value.int .i64 (f i)).toArray
theorem iRow_size (f : Nat → Int) (n : Nat) : (iRow f n).size = n := by simp [iRow]
theorem iRow_get (f : Nat → Int) (n i : Nat) (h : i < n) : (iRow f n)[i]? = some (.int .i64 (f i)) := by simp [iRow, h]
theorem iRow_set (f : Nat → Int) (n i : Nat) (x : Int) : (iRow f n).setIfInBounds i (.int .i64 x) = iRow (upd f i x) n := by
  apply Array.ext_getElem?
  intro j
  by_cases hj : j < n
  · rw [iRow_get _ _ _ hj, Array.getElem?_setIfInBounds]
    by_cases e : i = j
    · subst e; simp [iRow_size, hj, upd]
    · have e' : ¬ j = i := fun q => e q.symm
      simp [e, e', iRow_get _ _ _ hj, upd]
  · rw [Array.getElem?_eq_none (by rw [Array.size_setIfInBounds, iRow_size]; omega), Array.getElem?_eq_none (by rw [iRow_size]; omega)]
theorem info3b : (Try.prog.info? 3).map (fun i => (i.zero, i.size, i.bytes)) = some (some (.int .i64 0), 1, 8) := by kernel_rfl
theorem made_ints (n : Nat) : madeCells #[.int .i64 0] n = iRow nought n := by
  apply Array.ext_getElem?
  intro j
  by_cases hj : j < n
  · rw [iRow_get _ _ _ hj]
    simp [madeCells, hj, nought, Nat.mod_one]
  · rw [Array.getElem?_eq_none (by simp [madeCells]; omega), Array.getElem?_eq_none (by rw [iRow_size]; omega)]
theorem run_make65 (u : World) (n : Nat) (hn : n * 8 ≤ 281474976710656) :
    (Instr.makeSlice 65 (.int .i64 (n : Int)) (.int .i64 (n : Int))).run Try.prog u = .ok (.slice (some ⟨u.heap.size, 0, none⟩) n n) (u.alloc (.cells (iRow nought n) 3)) := by
  obtain ⟨i0, hi0, hz0, hz1, hz2⟩ := info_parts info3b
  have h := run_make (P := Try.prog) u 65 3 i0 (.int .i64 0) Try.underlying65 hi0 hz0 .i64 .i64 n n (by omega) (Int.le_refl _) (by rw [hz2]; omega) (by omega)
  rw [Int.toNat_natCast, hz1] at h
  rw [h]
  simp [Value.cells, made_ints]
def posF (l : List Cel) (i : Nat) : Int := match l[i]? with
  | some c => c.1
  | none => 0
def firstI (f : Nat → Int) (k : Nat) : Nat → Int := fun i => if i < k then f i else 0
theorem firstI_next (f : Nat → Int) (k : Nat) : upd (firstI f k) k (f k) = firstI f (k + 1) := firsts_next f k
theorem iRow_congr {f g : Nat → Int} {n : Nat} (h : ∀ i, i < n → f i = g i) : iRow f n = iRow g n := by
  apply Array.ext_getElem?
  intro j
  by_cases hj : j < n
  · rw [iRow_get _ _ _ hj, iRow_get _ _ _ hj, h j hj]
  · rw [Array.getElem?_eq_none (by rw [iRow_size]; omega), Array.getElem?_eq_none (by rw [iRow_size]; omega)]
set_option maxRecDepth 20000 in
theorem pend_none {v : Value} (h : NoneAt w v) : Calls Try.prog 25 #[v] w fun e w' => e = .returned (.slice none 0 0) ∧ w' = w := by
  go_enter Try.func25, Try.ntmps25
  go_wp2_with (first | (go_at_call 64; refine (none_yes h).mono ?_; rintro e W ⟨rfl, rfl⟩))
  go_ret
  exact ⟨rfl, rfl⟩
set_option maxRecDepth 20000 in
set_option maxHeartbeats 1000000 in
theorem pend_of (h : DiskAt w L s) (hwl : s.wait.length < 68719476736) :
    Calls Try.prog 25 #[.pointer (some ⟨L.d, 0, none⟩)] w fun e w' => e = .returned (.slice (some ⟨w.heap.size, 0, none⟩) s.wait.length s.wait.length) ∧ w'.heap[w.heap.size]? = some (.cells (iRow (posF s.wait) s.wait.length) 3) ∧ Below w.heap.size w w' := by
  have h0 := h.c0
  have hP := pending_of h
  obtain ⟨p, cp, hp1, hp2, hp3⟩ := h.pend
  rw [hp1] at hP
  have HP : Hid (0 < s.wait.length → ∃ g, L.hv.ownBlock = some g ∧ p = some ⟨g, s.done.length * 1026, none⟩) := hp3
  have HD : Hid (DiskAt w L s) := h
  clear h hp1 hp3
  generalize hm : s.wait.length = m at *
  have hmk := fun u => run_make65 u m (by omega)
  go_enter Try.func25, Try.ntmps25
  go_wp2_with (first | (go_at_call 64; refine (none_no h0).mono ?_; rintro e W ⟨rfl, he⟩; obtain rfl := he.symm) | (go_at_call 68; refine hP.mono ?_; rintro e W1 ⟨rfl, rfl⟩))
  have hS : Hid ((w.alloc (.cells (iRow nought m) 3)).drew.heap[w.heap.size]? = some (.cells (iRow (firstI (posF s.wait) 0) m) 3)) := by
    rw [show iRow (firstI (posF s.wait) 0) m = iRow nought m from iRow_congr fun i _ => by simp [firstI, nought]]
    exact heap_alloc_new w _
  have hB : Hid (Below w.heap.size w (w.alloc (.cells (iRow nought m) 3)).drew) := (below_new w _).drew
  clear hP hmk
  generalize (w.alloc (.cells (iRow nought m) 3)).drew = V at *
  go_loopw [15] (fun s15 wx => ∃ k : Nat, k ≤ m ∧ s15 = .int .i64 k ∧ Hid (wx.heap[w.heap.size]? = some (.cells (iRow (firstI (posF s.wait) k) m) 3)) ∧ Hid (Below w.heap.size w wx)) (fun s15 _ => m - (intOf s15).toNat)
  case atStart => exact ⟨0, by omega, rfl, hS.out, hB.out⟩
  case round =>
    obtain ⟨k, hk, rfl, HS, HB⟩ := hrel
    clear hS hB
    by_cases hk2 : (k : Int) < m
    · have hkl : k < s.wait.length := by omega
      obtain ⟨g, hg, rfl⟩ := HP.out (by omega)
      have hc : s.wait[k]? = some s.wait[k] := List.getElem?_eq_getElem hkl
      generalize s.wait[k] = c at hc
      have hpos := (HD.out.later HB.out).histPos hg (ops_wait s hc)
      have e1 : (s.done.length + k) * 1026 = s.done.length * 1026 + k * 1026 := Nat.add_mul _ _ _
      rw [e1] at hpos
      have hpf : posF s.wait k = c.1 := by unfold posF; rw [hc]
      have hpos' : wr.cell? ⟨g, s.done.length * 1026 + k * 1026 + 1, none⟩ = some (.int .i64 c.1) := hpos
      have ck : wr.cell? ⟨w.heap.size, k, none⟩ = some (.int .i64 (firstI (posF s.wait) k k)) := (Joins.cell_of_block HS.out k).trans (iRow_get _ _ _ (by omega))
      have fk : wr.frozen? ⟨w.heap.size, k, none⟩ = false := Joins.unfrozen_of_block HS.out k
      have HS2 : Hid ((wr.setCell ⟨w.heap.size, k, none⟩ (.int .i64 c.1)).heap[w.heap.size]? = some (.cells (iRow (firstI (posF s.wait) (k + 1)) m) 3)) := by
        have q := Joins.block_setCell HS.out (i := k) (.int .i64 c.1)
        rw [iRow_set, ← hpf, firstI_next] at q
        rw [← hpf]
        exact q
      have HB2 : Hid (Below w.heap.size w (wr.setCell ⟨w.heap.size, k, none⟩ (.int .i64 c.1))) := HB.out.setCell (Nat.le_refl _) _
      generalize s.done.length * 1026 = D at *
      generalize firstI (posF s.wait) k k = X at ck
      clear HS HB hpos hc e1 hpf
      go_wp2
      exact ⟨⟨k + 1, by omega, by go_num, HS2.out, HB2.out⟩, by simp [intOf]; omega⟩
    · obtain rfl : k = m := by omega
      have HS2 : Hid (wr.heap[w.heap.size]? = some (.cells (iRow (posF s.wait) k) 3)) := by
        have q := HS.out
        rw [show iRow (firstI (posF s.wait) k) k = iRow (posF s.wait) k from iRow_congr fun i hi => by simp [firstI, hi]] at q
        exact q
      clear HS
      go_wp2
      go_ret
      exact ⟨rfl, HS2.out, HB.out⟩
theorem run_copy_wide {P : Program} (w : World) (dT sT ty elem : TypeId) (sz : Nat) (g o dLen dCap : Nat) (a : Addr) (sLen sCap : Nat) (cur : Array Value) (t : TypeId) (cs : List Value)
    (hu : P.underlying dT = some (.slice elem)) (hs : (P.info? elem).map (·.size) = some sz)
    (hg : w.heap[g]? = some (.cells cur t (0, 0))) (hn : cs.length = Nat.min sLen dLen * sz)
    (hsrc : ∀ j v, cs[j]? = some v → w.cell? (a.add j) = some v) (hfit : o + cs.length ≤ cur.size) (h1 : ∀ v ∈ cs, v.oneCell' = true) :
    (Builtin.copy_ #[dT, sT] ty #[.slice (some ⟨g, o, none⟩) dLen dCap, .slice (some a) sLen sCap]).run P w =
      .ok (goInt (Nat.min sLen dLen)) (w.setRow g (cur.toList.take o ++ cs ++ cur.toList.drop (o + cs.length)).toArray) := by
  have hl := run_loadCells_list (P := P) w a cs hsrc
  have hst := run_storeCells_at P g o t cs 0 cur w hg (by simpa using hfit) h1
  cases hq : P.info? elem with
  | none => simp [hq] at hs
  | some i =>
    have hi : i.size = sz := by simpa [hq] using hs
    simp [Builtin.copy_, run_underlying hu, Builtin.lenOf, Builtin.firstCells, sizeOf, typeInfo, hq, hi, ← hn, hl, hst]
theorem size108 : (Try.prog.info? 108).map (·.size) = some 1026 := by
  obtain ⟨i0, hi0, hz0, hz1, hz2⟩ := info_parts info108
  rw [hi0]
  exact congrArg some hz1
theorem run_make67 (u : World) (n : Nat) (hn : n * 1040 ≤ 281474976710656) :
    ∃ cur, cur.size = n * 1026 ∧ (Instr.makeSlice 67 (.int .i64 (n : Int)) (.int .i64 (n : Int))).run Try.prog u = .ok (.slice (some ⟨u.heap.size, 0, none⟩) n n) (u.alloc (.cells cur 108)) := by
  obtain ⟨i0, hi0, hz0, hz1, hz2⟩ := info_parts info108
  have h := run_make (P := Try.prog) u 67 108 i0 _ Try.underlying67 hi0 hz0 .i64 .i64 n n (by omega) (Int.le_refl _) (by rw [hz2]; omega) (by omega)
  rw [Int.toNat_natCast, hz1] at h
  exact ⟨_, by simp [madeCells], h⟩
set_option maxRecDepth 20000 in
theorem history_none {v : Value} (h : NoneAt w v) : Calls Try.prog 26 #[v] w fun e w' => e = .returned (.slice none 0 0) ∧ w' = w := by
  go_enter Try.func26, Try.ntmps26
  go_wp2_with (first | (go_at_call 64; refine (none_yes h).mono ?_; rintro e W ⟨rfl, rfl⟩))
  go_ret
  exact ⟨rfl, rfl⟩
theorem wpList_copyH {ops : Array Oper} {rest : List Oper} {o : Oper} {a : Act} {W W' : World} {Q : Exit → Act → World → Prop} (hgd : o.guard = none) (s x : Operand)
    (ho : o.op = .call { callee := .builtin .copy, args := #[s, x], argTypes := #[67, 67] }) (v v' : Value) (hs : a.eval s = v) (hx : a.eval x = v') (n : Nat)
    (hr : ∀ ty, (Builtin.copy_ #[67, 67] ty #[v, v']).run Try.prog W = .ok (goInt n) W') (h : wpList Try.prog ops Q rest (a.put o.dst (goInt n)) W') : wpList Try.prog ops Q (o :: rest) a W := by
  refine wpList_plain hgd fun K' hK' => ?_
  unfold Oper.wp
  simp [execOp, ho, resolve, invoke, builtin, hs, hx, hr, Result.andThen]
  exact hK' _ _ h
set_option maxRecDepth 20000 in
set_option maxHeartbeats 1000000 in
theorem history_of (h : DiskAt w L s) (hol : s.ops.length < 68719476736) :
    Calls Try.prog 26 #[.pointer (some ⟨L.d, 0, none⟩)] w fun e w' => e = .returned (.slice (some ⟨w.heap.size, 0, none⟩) s.ops.length s.ops.length) ∧ w'.heap[w.heap.size]? = some (.cells (opCells s.ops).toArray 108) ∧ Below w.heap.size w w' := by
  have h0 := h.c0
  have c3 := h.c3
  obtain ⟨p, c, h1, h2, h3, h4⟩ := h.shape
  rw [h1] at c3
  obtain ⟨cur, hcs, hmk⟩ := run_make67 w s.ops.length (by omega)
  have hnew := heap_alloc_new w (.cells cur 108)
  have hcl := opCells_len s.ops
  have hcopy : ∃ W', (∀ ty, (Builtin.copy_ #[67, 67] ty #[.slice (some ⟨w.heap.size, 0, none⟩) s.ops.length s.ops.length, .slice p s.ops.length c]).run Try.prog (w.alloc (.cells cur 108)) = .ok (goInt s.ops.length) W') ∧ W'.heap[w.heap.size]? = some (.cells (opCells s.ops).toArray 108) ∧ Below w.heap.size w W' := by
    rcases h4 with ⟨rfl, h5⟩ | ⟨g, rfl, h6, hlt⟩
    · have hn0 : s.ops.length = 0 := by omega
      refine ⟨w.alloc (.cells cur 108), fun ty => ?_, ?_, below_new w _⟩
      · have q := run_copy_nil (P := Try.prog) (w.alloc (.cells cur 108)) 67 67 ty 108 ⟨w.heap.size, 0, none⟩ s.ops.length s.ops.length Try.underlying67 (by rw [size108]; rfl)
        rw [hn0, h5] at *
        exact q
      · rw [hnew]
        have e1 : s.ops = [] := List.length_eq_zero_iff.1 hn0
        have e2 : cur = #[] := Array.size_eq_zero_iff.1 (by rw [hcs, hn0])
        rw [e1, e2]
        rfl
    · have hsrc : ∀ j v, (opCells s.ops)[j]? = some v → (w.alloc (.cells cur 108)).cell? ((⟨g, 0, none⟩ : Addr).add j) = some v := fun j v hv => by
        have q := h.hist.cells (g := g) (by rw [h1]; rfl) j v hv
        rw [Go.WideShapes.add_plain] at q ⊢
        rw [World.cell?_alloc_past _ _ _ hlt]
        exact q
      have h1c : ∀ v ∈ opCells s.ops, v.oneCell' = true := fun v hv => by
        obtain ⟨r, _, hr⟩ := List.mem_flatMap.1 hv
        exact recCells_one r v hr
      have q := fun ty => run_copy_wide (P := Try.prog) (w.alloc (.cells cur 108)) 67 67 ty 108 1026 w.heap.size 0 s.ops.length s.ops.length ⟨g, 0, none⟩ s.ops.length c cur 108 (opCells s.ops) Try.underlying67 size108 hnew (by rw [hcl]; exact congrArg (· * 1026) (Nat.min_self _).symm) hsrc (by rw [hcl, hcs]; omega) h1c
      have e3 : (cur.toList.take 0 ++ opCells s.ops ++ cur.toList.drop (0 + (opCells s.ops).length)).toArray = (opCells s.ops).toArray := by
        rw [List.take_zero, List.nil_append, List.drop_eq_nil_of_le (by rw [Array.length_toList, hcs, hcl]; omega), List.append_nil]
      rw [e3] at q
      refine ⟨_, fun ty => (q ty).trans (by rw [show Nat.min s.ops.length s.ops.length = s.ops.length from Nat.min_self _]), setRow_heap _ _ _ _ _ _ hnew, below_setRow (below_new w _) (Nat.le_refl _) _⟩
  obtain ⟨W', hr, hh, hb⟩ := hcopy
  have HH : Hid (W'.heap[w.heap.size]? = some (.cells (opCells s.ops).toArray 108)) := hh
  have HB : Hid (Below w.heap.size w W') := hb
  have hlt : L.d < w.heap.size := h.lt L.d (.inl rfl)
  have c3' : (w.alloc (.cells cur 108)).cell? ⟨L.d, 3, none⟩ = some (.slice p s.ops.length c) := by rw [World.cell?_alloc_past _ _ _ hlt]; exact c3
  clear h hh hb hnew hcl h4 h2 h3 hcs h1
  generalize s.ops.length = m at *
  go_enter Try.func26, Try.ntmps26
  go_wp2_with (first | (go_at_call 64; refine (none_no h0).mono ?_; rintro e W ⟨rfl, he⟩; obtain rfl := he.symm) | refine wpList_copyH rfl (.tmp 12) (.tmp 16) rfl _ _ rfl rfl m hr ?_)
  go_ret
  exact ⟨rfl, HH.out, HB.out⟩
end Go.Proofs.Ytembocfghkmieaa
