import Derived.Test.YtglcliokhlafoaaWrite
import Derived.Laws.CopyRow
/- Crash: of what is pending that is held which is kept, in order; nothing is pending then, there is no fuse, nobody's claim; for every disk and every choice. -/
namespace Go.Proofs.Ytglcliokhlafoaa
open Go.RowKit
variable {w : World} {L : Loc} {s : St}

/-- v is a list of bools in memory. -/
def BoolsAt (w : World) (v : Value) (l : List Bool) : Prop := ∃ p c, v = .slice p l.length c ∧ (0 < l.length → ∃ b off, p = some ⟨b, off, none⟩ ∧ ∀ i x, l[i]? = some x → w.cell? ⟨b, off + i, none⟩ = some (.bool x))
theorem BoolsAt.kept {w w' : World} {v : Value} {l : List Bool} {T : Nat → Prop} (h : BoolsAt w v l) (hf : Fr T w w') (hT : ∀ b x off, w.cell? ⟨b, off, none⟩ = some (.bool x) → ¬ T b) : BoolsAt w' v l := by
  obtain ⟨p, c, h1, h2⟩ := h
  refine ⟨p, c, h1, fun hl => ?_⟩
  obtain ⟨b, off, h3, h4⟩ := h2 hl
  refine ⟨b, off, h3, fun i x hx => ?_⟩
  have h5 := h4 i x hx
  have hlt : b < w.heap.size := by
    by_cases q : b < w.heap.size
    · exact q
    · unfold World.cell? at h5
      simp only [Array.getElem?_eq_none (show w.heap.size ≤ b by omega)] at h5
      simp at h5
  rw [← h5]
  exact World.cell?_of_block (hf.block b hlt (hT b x _ h5))
/-- Those that are kept. -/
def keptL : List Cel → List Bool → List Cel
  | c :: t, true :: k => c :: keptL t k
  | _ :: t, false :: k => keptL t k
  | _, _ => []
theorem keptL_snoc (c : Cel) (b : Bool) : ∀ (l : List Cel) (k : List Bool), l.length = k.length → keptL (l ++ [c]) (k ++ [b]) = keptL l k ++ (if b then [c] else [])
  | [], [], _ => by cases b <;> rfl
  | x :: l, y :: k, h => by
    have ih := keptL_snoc c b l k (by simpa using h)
    cases y
    · exact ih
    · show x :: keptL (l ++ [c]) (k ++ [b]) = _
      rw [ih]; rfl
  | [], _ :: _, h => by simp at h
  | _ :: _, [], h => by simp at h
theorem keptL_take : ∀ (l : List Cel) (k : List Bool) (n : Nat), l.length ≤ n ∨ k.length ≤ n → keptL (l.take n) (k.take n) = keptL l k
  | [], k, n, _ => by simp [keptL]
  | x :: l, [], n, _ => by cases n <;> simp [keptL]
  | x :: l, y :: k, 0, h => by simp at h
  | x :: l, y :: k, n + 1, h => by
    have ih := keptL_take l k n (by simpa using h)
    cases y
    · exact ih
    · show x :: keptL (l.take n) (k.take n) = x :: keptL l k
      rw [ih]
/-- Behind the power's going. -/
def crashS (s : St) (k : List Bool) : St := { holdAll s (keptL s.wait k) with done := [], wait := [], fuse := -1, stopped := false, claimed := false }
theorem crashS_ok {k : List Bool} (h : Ok (holdAll s (keptL s.wait k))) : Ok (crashS s k) :=
  ⟨h.n, h.held, fun c hc => by simp [crashS] at hc, ⟨by show (-1 : Int) ≤ -1; omega, by show (-1 : Int) ≤ _; omega⟩, h.made, h.reads, h.claims⟩
theorem bool_no_map {w : World} {b hb off : Nat} {m : Int → Option Value} {x : Bool} (h : w.cell? ⟨b, off, none⟩ = some (.bool x)) (hm : MapIs Try.prog 3 w hb m) : b ≠ hb := fun e => by
  obtain ⟨es, ck, hh⟩ := hm.isMap
  rw [e] at h
  unfold World.cell? at h
  simp only [hh] at h
  simp at h
end Go.Proofs.Ytglcliokhlafoaa
/- Crash, for a choice of any length that a list can have; no condition. -/
namespace Go.Proofs.Ytglcliokhlafoaa
open Go.RowKit
variable {w : World} {L : Loc} {s : St}
end Go.Proofs.Ytglcliokhlafoaa
/- Pending and History: what is pending, and all that was done, in new memory; for every disk. -/
namespace Go.Proofs.Ytglcliokhlafoaa
open Go.RowKit
variable {w : World} {L : Loc} {s : St}

/-- n numbers in a row. -/
def iRow (f : Nat → Int) (n : Nat) : Array Value := ((List.range n).map fun i => Value.int .i64 (f i)).toArray
theorem iRow_size (f : Nat → Int) (n : Nat) : (iRow f n).size = n := by simp [iRow]
theorem iRow_get (f : Nat → Int) (n i : Nat) (h : i < n) : (iRow f n)[i]? = some (.int .i64 (f i)) := by simp [iRow, h]
theorem iRow_set (f : Nat → Int) (n i : Nat) (x : Int) : (iRow f n).setIfInBounds i (.int .i64 x) = iRow (upd f i x) n := by
  apply Array.ext_getElem?
  intro j
  by_cases hj : j < n
  · rw [iRow_get _ _ _ hj, Array.getElem?_setIfInBounds]
    by_cases e : i = j
    · subst e; simp [iRow_size, hj, upd]
    · have e' : ¬ j = i := fun q => e q.symm
      simp [e, e', iRow_get _ _ _ hj, upd]
  · rw [Array.getElem?_eq_none (by rw [Array.size_setIfInBounds, iRow_size]; omega), Array.getElem?_eq_none (by rw [iRow_size]; omega)]
theorem info3b : (Try.prog.info? 3).map (fun i => (i.zero, i.size, i.bytes)) = some (some (.int .i64 0), 1, 8) := by kernel_rfl
theorem made_ints (n : Nat) : madeCells #[.int .i64 0] n = iRow nought n := by
  apply Array.ext_getElem?
  intro j
  by_cases hj : j < n
  · rw [iRow_get _ _ _ hj]
    simp [madeCells, hj, nought, Nat.mod_one]
  · rw [Array.getElem?_eq_none (by simp [madeCells]; omega), Array.getElem?_eq_none (by rw [iRow_size]; omega)]
theorem run_make65 (u : World) (n : Nat) (hn : n * 8 ≤ 281474976710656) :
    (Instr.makeSlice 40 (.int .i64 (n : Int)) (.int .i64 (n : Int))).run Try.prog u = .ok (.slice (some ⟨u.heap.size, 0, none⟩) n n) (u.alloc (.cells (iRow nought n) 3)) := by
  obtain ⟨i0, hi0, hz0, hz1, hz2⟩ := info_parts info3b
  have h := run_make (P := Try.prog) u 40 3 i0 (.int .i64 0) Try.underlying40 hi0 hz0 .i64 .i64 n n (by omega) (Int.le_refl _) (by rw [hz2]; omega) (by omega)
  rw [Int.toNat_natCast, hz1] at h
  rw [h]
  simp [Value.cells, made_ints]
def posF (l : List Cel) (i : Nat) : Int := match l[i]? with
  | some c => c.1
  | none => 0
def firstI (f : Nat → Int) (k : Nat) : Nat → Int := fun i => if i < k then f i else 0
theorem firstI_next (f : Nat → Int) (k : Nat) : upd (firstI f k) k (f k) = firstI f (k + 1) := firsts_next f k
theorem iRow_congr {f g : Nat → Int} {n : Nat} (h : ∀ i, i < n → f i = g i) : iRow f n = iRow g n := by
  apply Array.ext_getElem?
  intro j
  by_cases hj : j < n
  · rw [iRow_get _ _ _ hj, iRow_get _ _ _ hj, h j hj]
  · rw [Array.getElem?_eq_none (by rw [iRow_size]; omega), Array.getElem?_eq_none (by rw [iRow_size]; omega)]
set_option maxRecDepth 20000 in
theorem pend_none {v : Value} (h : NoneAt w v) : Calls Try.prog 15 #[v] w fun e w' => e = .returned (.slice none 0 0) ∧ w' = w := by
  go_enter Try.func15, Try.ntmps15
  go_wp2_with (first | (go_at_call 40; refine (none_yes h).mono ?_; rintro e W ⟨rfl, rfl⟩))
  go_ret
  exact ⟨rfl, rfl⟩
set_option maxRecDepth 20000 in
set_option maxHeartbeats 1000000 in
theorem pend_of (h : DiskAt w L s) (hwl : s.wait.length < 68719476736) :
    Calls Try.prog 15 #[.pointer (some ⟨L.d, 0, none⟩)] w fun e w' => e = .returned (.slice (some ⟨w.heap.size, 0, none⟩) s.wait.length s.wait.length) ∧ w'.heap[w.heap.size]? = some (.cells (iRow (posF s.wait) s.wait.length) 3) ∧ Below w.heap.size w w' := by
  have h0 := h.c0
  have hP := pending_of h
  obtain ⟨p, cp, hp1, hp2, hp3⟩ := h.pend
  rw [hp1] at hP
  have HP : Hid (0 < s.wait.length → ∃ g, L.hv.ownBlock = some g ∧ p = some ⟨g, s.done.length * 1026, none⟩) := hp3
  have HD : Hid (DiskAt w L s) := h
  clear h hp1 hp3
  generalize hm : s.wait.length = m at *
  have hmk := fun u => run_make65 u m (by omega)
  go_enter Try.func15, Try.ntmps15
  go_wp2_with (first | (go_at_call 40; refine (none_no h0).mono ?_; rintro e W ⟨rfl, he⟩; obtain rfl := he.symm) | (go_at_call 45; refine hP.mono ?_; rintro e W1 ⟨rfl, rfl⟩))
  have hS : Hid ((w.alloc (.cells (iRow nought m) 3)).drew.heap[w.heap.size]? = some (.cells (iRow (firstI (posF s.wait) 0) m) 3)) := by
    rw [show iRow (firstI (posF s.wait) 0) m = iRow nought m from iRow_congr fun i _ => by simp [firstI, nought]]
    exact heap_alloc_new w _
  have hB : Hid (Below w.heap.size w (w.alloc (.cells (iRow nought m) 3)).drew) := (below_new w _).drew
  clear hP hmk
  generalize (w.alloc (.cells (iRow nought m) 3)).drew = V at *
  go_loopw [15] (fun s15 wx => ∃ k : Nat, k ≤ m ∧ s15 = .int .i64 k ∧ Hid (wx.heap[w.heap.size]? = some (.cells (iRow (firstI (posF s.wait) k) m) 3)) ∧ Hid (Below w.heap.size w wx)) (fun s15 _ => m - (intOf s15).toNat)
  case atStart => exact ⟨0, by omega, rfl, hS.out, hB.out⟩
  case round =>
    obtain ⟨k, hk, rfl, HS, HB⟩ := hrel
    clear hS hB
    by_cases hk2 : (k : Int) < m
    · have hkl : k < s.wait.length := by omega
      obtain ⟨g, hg, rfl⟩ := HP.out (by omega)
      have hc : s.wait[k]? = some s.wait[k] := List.getElem?_eq_getElem hkl
      generalize s.wait[k] = c at hc
      have hpos := (HD.out.later HB.out).histPos hg (ops_wait s hc)
      have e1 : (s.done.length + k) * 1026 = s.done.length * 1026 + k * 1026 := Nat.add_mul _ _ _
      rw [e1] at hpos
      have hpf : posF s.wait k = c.1 := by unfold posF; rw [hc]
      have hpos' : wr.cell? ⟨g, s.done.length * 1026 + k * 1026 + 1, none⟩ = some (.int .i64 c.1) := hpos
      have ck : wr.cell? ⟨w.heap.size, k, none⟩ = some (.int .i64 (firstI (posF s.wait) k k)) := (Joins.cell_of_block HS.out k).trans (iRow_get _ _ _ (by omega))
      have fk : wr.frozen? ⟨w.heap.size, k, none⟩ = false := Joins.unfrozen_of_block HS.out k
      have HS2 : Hid ((wr.setCell ⟨w.heap.size, k, none⟩ (.int .i64 c.1)).heap[w.heap.size]? = some (.cells (iRow (firstI (posF s.wait) (k + 1)) m) 3)) := by
        have q := Joins.block_setCell HS.out (i := k) (.int .i64 c.1)
        rw [iRow_set, ← hpf, firstI_next] at q
        rw [← hpf]
        exact q
      have HB2 : Hid (Below w.heap.size w (wr.setCell ⟨w.heap.size, k, none⟩ (.int .i64 c.1))) := HB.out.setCell (Nat.le_refl _) _
      generalize s.done.length * 1026 = D at *
      generalize firstI (posF s.wait) k k = X at ck
      clear HS HB hpos hc e1 hpf
      go_wp2
      exact ⟨⟨k + 1, by omega, by go_num, HS2.out, HB2.out⟩, by simp [intOf]; omega⟩
    · obtain rfl : k = m := by omega
      have HS2 : Hid (wr.heap[w.heap.size]? = some (.cells (iRow (posF s.wait) k) 3)) := by
        have q := HS.out
        rw [show iRow (firstI (posF s.wait) k) k = iRow (posF s.wait) k from iRow_congr fun i hi => by simp [firstI, hi]] at q
        exact q
      clear HS
      go_wp2
      go_ret
      exact ⟨rfl, HS2.out, HB.out⟩
theorem run_copy_wide {P : Program} (w : World) (dT sT ty elem : TypeId) (sz : Nat) (g o dLen dCap : Nat) (a : Addr) (sLen sCap : Nat) (cur : Array Value) (t : TypeId) (cs : List Value)
    (hu : P.underlying dT = some (.slice elem)) (hs : (P.info? elem).map (·.size) = some sz)
    (hg : w.heap[g]? = some (.cells cur t (0, 0))) (hn : cs.length = Nat.min sLen dLen * sz)
    (hsrc : ∀ j v, cs[j]? = some v → w.cell? (a.add j) = some v) (hfit : o + cs.length ≤ cur.size) (h1 : ∀ v ∈ cs, v.oneCell' = true) :
    (Builtin.copy_ #[dT, sT] ty #[.slice (some ⟨g, o, none⟩) dLen dCap, .slice (some a) sLen sCap]).run P w =
      .ok (goInt (Nat.min sLen dLen)) (w.setRow g (cur.toList.take o ++ cs ++ cur.toList.drop (o + cs.length)).toArray) := by
  have hl := run_loadCells_list (P := P) w a cs hsrc
  have hst := run_storeCells_at P g o t cs 0 cur w hg (by simpa using hfit) h1
  cases hq : P.info? elem with
  | none => simp [hq] at hs
  | some i =>
    have hi : i.size = sz := by simpa [hq] using hs
    simp [Builtin.copy_, run_underlying hu, Builtin.lenOf, Builtin.firstCells, sizeOf, typeInfo, hq, hi, ← hn, hl, hst]
theorem size108 : (Try.prog.info? 97).map (·.size) = some 1026 := by
  obtain ⟨i0, hi0, hz0, hz1, hz2⟩ := info_parts info108
  rw [hi0]
  exact congrArg some hz1
theorem run_make67 (u : World) (n : Nat) (hn : n * 1040 ≤ 281474976710656) :
    ∃ cur, cur.size = n * 1026 ∧ (Instr.makeSlice 88 (.int .i64 (n : Int)) (.int .i64 (n : Int))).run Try.prog u = .ok (.slice (some ⟨u.heap.size, 0, none⟩) n n) (u.alloc (.cells cur 97)) := by
  obtain ⟨i0, hi0, hz0, hz1, hz2⟩ := info_parts info108
  have h := run_make (P := Try.prog) u 88 97 i0 _ Try.underlying88 hi0 hz0 .i64 .i64 n n (by omega) (Int.le_refl _) (by rw [hz2]; omega) (by omega)
  rw [Int.toNat_natCast, hz1] at h
  exact ⟨_, by simp [madeCells], h⟩
theorem wpList_copyH {ops : Array Oper} {rest : List Oper} {o : Oper} {a : Act} {W W' : World} {Q : Exit → Act → World → Prop} (hgd : o.guard = none) (s x : Operand)
    (ho : o.op = .call { callee := .builtin .copy, args := #[s, x], argTypes := #[88, 88] }) (v v' : Value) (hs : a.eval s = v) (hx : a.eval x = v') (n : Nat)
    (hr : ∀ ty, (Builtin.copy_ #[88, 88] ty #[v, v']).run Try.prog W = .ok (goInt n) W') (h : wpList Try.prog ops Q rest (a.put o.dst (goInt n)) W') : wpList Try.prog ops Q (o :: rest) a W := by
  refine wpList_plain hgd fun K' hK' => ?_
  unfold Oper.wp
  simp [execOp, ho, resolve, invoke, builtin, hs, hx, hr, Result.andThen]
  exact hK' _ _ h
end Go.Proofs.Ytglcliokhlafoaa
/- A disk that a function made itself, with blocks beside it that stay: each call once more, in one form; no condition but that numbers do not pass their greatest. -/
namespace Go.Proofs.Ytglcliokhlafoaa
open Go.RowKit

/-- In W, which has come of w, the disk at d stands for s; all of it is new since w; so nothing that w had has turned; the blocks of ks hold what is told, and are none of the disk's. -/
structure SitsL (w W : World) (L : Loc) (s : St) (ks : List (Nat × Obj)) : Prop where
  disk : DiskAt W L s
  new : L.from w.heap.size
  below : Below w.heap.size w W
  keep : ∀ p ∈ ks, W.heap[p.1]? = some p.2 ∧ ¬ L.has p.1
def Sits (w W : World) (d : Nat) (s : St) (ks : List (Nat × Obj)) : Prop := ∃ L : Loc, L.d = d ∧ SitsL w W L s ks
theorem SitsL.goes {w W W' : World} {L L' : Loc} {s s' : St} {ks : List (Nat × Obj)} (h : SitsL w W L s ks) (hD : DiskAt W' L' s') (hG : Goes W W' L L') : SitsL w W' L' s' ks := by
  refine ⟨hD, fun k hk => ?_, h.below.trans (hG.fr.below h.new h.below.size), fun p hp => ?_⟩
  · rcases hG.own k hk with q | q
    · exact h.new k q
    · have := h.below.size
      omega
  · obtain ⟨h1, h2⟩ := h.keep p hp
    have hlt := (Array.getElem?_eq_some_iff.1 h1).1
    refine ⟨(hG.fr.block p.1 hlt h2).trans h1, fun q => ?_⟩
    rcases hG.own p.1 q with q | q
    · exact h2 q
    · omega
variable {w W : World} {d : Nat} {s : St} {ks : List (Nat × Obj)}
theorem Sits.later {W' : World} (h : Sits w W d s ks) (hb : Below W.heap.size W W') : Sits w W' d s ks := by
  obtain ⟨L, hd, h⟩ := h
  exact ⟨L, hd, h.goes (h.disk.later hb) (Goes.ofBelow L hb)⟩
/-- Another block is told. -/
theorem Sits.add (h : Sits w W d s ks) (o : Obj) : Sits w (W.alloc o) d s ((W.heap.size, o) :: ks) := by
  obtain ⟨L, hd, h⟩ := h
  have h2 := h.goes (h.disk.later (below_new W o)) (Goes.ofBelow L (below_new W o))
  refine ⟨L, hd, h2.disk, h2.new, h2.below, fun p hp => ?_⟩
  rcases List.mem_cons.1 hp with rfl | hp
  · exact ⟨heap_alloc_new W o, fun q => by have := h.disk.lt _ q; simp only at this; omega⟩
  · exact h2.keep p hp
theorem Sits.blk (h : Sits w W d s ks) {g : Nat} {o : Obj} (hm : (g, o) ∈ ks) : W.heap[g]? = some o := by
  obtain ⟨L, hd, h⟩ := h
  exact (h.keep _ hm).1
theorem Sits.below (h : Sits w W d s ks) : Below w.heap.size w W := by
  obtain ⟨L, hd, h⟩ := h
  exact h.below
theorem Sits.ok (h : Sits w W d s ks) : Ok s := by
  obtain ⟨L, hd, h⟩ := h
  exact h.disk.ok
theorem Sits.drop (h : Sits w W d s ks) {ks' : List (Nat × Obj)} (hs : ∀ p ∈ ks', p ∈ ks) : Sits w W d s ks' := by
  obtain ⟨L, hd, h⟩ := h
  exact ⟨L, hd, h.disk, h.new, h.below, fun p hp => h.keep p (hs p hp)⟩
/-- A disk is made, with blocks that are there. -/
theorem sits_new {n : Int} (hn : bndB n = true) (hB : Below w.heap.size w W) (hk : ∀ p ∈ ks, W.heap[p.1]? = some p.2) :
    Calls Try.prog 19 #[.int .i64 n] W fun e W' => ∃ d, e = .returned (.tuple #[.pointer (some ⟨d, 0, none⟩), .int .i64 0]) ∧ Sits w W' d (newV n) ks := by
  refine (new_ok hn W).mono ?_
  rintro e W' ⟨L, rfl, hD, hL, hb⟩
  refine ⟨L.d, rfl, L, rfl, hD, fun k hk => by have := hL k hk; have := hB.size; omega, below_next hB hb, fun p hp => ?_⟩
  have h1 := hk p hp
  have hlt := (Array.getElem?_eq_some_iff.1 h1).1
  exact ⟨heap_kept h1 hb, fun q => by have := hL _ q; omega⟩
theorem sits_len (h : Sits w W d s ks) : Calls Try.prog 61 #[.pointer (some ⟨d, 0, none⟩)] W fun e W' => e = .returned (.int .i64 s.n) ∧ Sits w W' d s ks := by
  obtain ⟨L, rfl, hS⟩ := h
  exact (len_of hS.disk).mono fun e W' ⟨h1, h2⟩ => ⟨h1, by rw [h2]; exact ⟨L, rfl, hS⟩⟩
theorem sits_made (h : Sits w W d s ks) : Calls Try.prog 12 #[.pointer (some ⟨d, 0, none⟩)] W fun e W' => e = .returned (.int .i64 s.made) ∧ Sits w W' d s ks := by
  obtain ⟨L, rfl, hS⟩ := h
  exact (made_of hS.disk).mono fun e W' ⟨h1, h2⟩ => ⟨h1, by rw [h2]; exact ⟨L, rfl, hS⟩⟩
theorem sits_stopped (h : Sits w W d s ks) : Calls Try.prog 98 #[.pointer (some ⟨d, 0, none⟩)] W fun e W' => e = .returned (.bool s.stopped) ∧ Sits w W' d s ks := by
  obtain ⟨L, rfl, hS⟩ := h
  exact (stopped_of hS.disk).mono fun e W' ⟨h1, h2⟩ => ⟨h1, by rw [h2]; exact ⟨L, rfl, hS⟩⟩
theorem sits_claimed (h : Sits w W d s ks) (k : Int) : Calls Try.prog 71 #[.pointer (some ⟨d, 0, none⟩), .int .i64 k] W fun e W' => e = .returned (.bool (claimedV s k)) ∧ Sits w W' d s ks := by
  obtain ⟨L, rfl, hS⟩ := h
  exact (claimed_of hS.disk k).mono fun e W' ⟨h1, h2⟩ => ⟨h1, by rw [h2]; exact ⟨L, rfl, hS⟩⟩
theorem sits_claim (h : Sits w W d s ks) (hr : Room s) : Calls Try.prog 38 #[.pointer (some ⟨d, 0, none⟩)] W fun e W' => e = .returned (.int .i64 (claimN s)) ∧ Sits w W' d (claimV s) ks := by
  obtain ⟨L, rfl, hS⟩ := h
  exact (claim_of hS.disk hr).mono fun e W' ⟨h1, h2, h3⟩ => ⟨h1, L, rfl, hS.goes h2 h3⟩
theorem sits_read (h : Sits w W d s ks) (hr : Room s) (k : Int) :
    Calls Try.prog 30 #[.pointer (some ⟨d, 0, none⟩), .int .i64 k] W fun e W' => e = .returned (.tuple #[.agg (blk (readB s k)), .int .i64 (refV s k)]) ∧ Sits w W' d (readV s k) ks := by
  obtain ⟨L, rfl, hS⟩ := h
  unfold readB readV
  by_cases hb : refV s k = 0
  · rw [if_pos hb, if_pos hb, hb]
    exact (read_ok hS.disk hr hb).mono fun e W' ⟨h1, h2, h3⟩ => ⟨h1, L, rfl, hS.goes h2 h3⟩
  · rw [if_neg hb, if_neg hb]
    exact (read_bad hS.disk hb).mono fun e W' ⟨h1, h2⟩ => ⟨h1, L, rfl, hS.goes (hS.disk.later h2) (Goes.ofBelow L h2)⟩
def writeV (s : St) (k : Int) (f : Nat → Int) : St := if refV s k = 0 then (if lets s then writeS s k f else letV s) else s
def writeE (s : St) (k : Int) : Int := if refV s k = 0 then (if lets s then 0 else 3) else refV s k
theorem sits_write (h : Sits w W d s ks) (hr : Room s) (k : Int) {f : Nat → Int} (hf : Can f) :
    Calls Try.prog 63 #[.pointer (some ⟨d, 0, none⟩), .int .i64 k, .agg (blk f)] W fun e W' => e = .returned (.int .i64 (writeE s k)) ∧ Sits w W' d (writeV s k f) ks := by
  obtain ⟨L, rfl, hS⟩ := h
  unfold writeE writeV
  by_cases hb : refV s k = 0
  · rw [if_pos hb, if_pos hb]
    cases hl : lets s
    · exact (write_dead hS.disk hr hb hl f).mono fun e W' ⟨h1, h2, h3⟩ => ⟨h1, L, rfl, hS.goes h2 h3⟩
    · exact (write_ok hS.disk hr hb hl hf).mono fun e W' ⟨h1, L', h2, h3⟩ => ⟨h1, L', h3.d, hS.goes h2 h3⟩
  · rw [if_neg hb, if_neg hb]
    exact (write_bad hS.disk hb f).mono fun e W' ⟨h1, h2⟩ => ⟨h1, L, rfl, hS.goes (hS.disk.later h2) (Goes.ofBelow L h2)⟩
def barV (s : St) : St := if s.stopped then s else (if lets s then barS s else letV s)
def barE (s : St) : Int := if s.stopped then 3 else (if lets s then 0 else 3)
theorem sits_barrier (h : Sits w W d s ks) (hr : Room s) :
    Calls Try.prog 43 #[.pointer (some ⟨d, 0, none⟩)] W fun e W' => e = .returned (.int .i64 (barE s)) ∧ Sits w W' d (barV s) ks := by
  obtain ⟨L, rfl, hS⟩ := h
  unfold barE barV
  cases hs : s.stopped
  · cases hl : lets s
    · exact (barrier_dead hS.disk hr hs hl).mono fun e W' ⟨h1, h2, h3⟩ => ⟨h1, L, rfl, hS.goes h2 h3⟩
    · exact (barrier_ok hS.disk hr hs hl).mono fun e W' ⟨h1, L', h2, h3⟩ => ⟨h1, L', h3.d, hS.goes h2 h3⟩
  · exact (barrier_stopped hS.disk hs).mono fun e W' ⟨h1, h2⟩ => ⟨h1, by rw [h2]; exact ⟨L, rfl, hS⟩⟩
theorem sits_pending (h : Sits w W d s ks) (hwl : s.wait.length < 68719476736) :
    Calls Try.prog 15 #[.pointer (some ⟨d, 0, none⟩)] W fun e W' => e = .returned (.slice (some ⟨W.heap.size, 0, none⟩) s.wait.length s.wait.length) ∧ W'.heap[W.heap.size]? = some (.cells (iRow (posF s.wait) s.wait.length) 3) ∧ Sits w W' d s ks := by
  have h' := h
  obtain ⟨L, rfl, hS⟩ := h
  exact (pend_of hS.disk hwl).mono fun e W' ⟨h1, h2, h3⟩ => ⟨h1, h2, h'.later h3⟩
end Go.Proofs.Ytglcliokhlafoaa
