import Derived.Test.YtbnbbelkddbndaaCutMath
import Derived.Test.YtbnbbelkddbndaaLives
import Derived.Test.YtbnbbelkddbndaaRAfter
/- What After and Block tell of what is behind the last barrier, in plain lists; no condition but that every operation may be. -/
namespace Go.Proofs.Ytbnbbelkddbndaa
open Go.RowKit Go.Maps
/-- What is behind the last barrier. -/
def tailR (fs : List Rec) : List Rec := fs.drop (sureN fs)
theorem tail_get (fs : List Rec) (j : Nat) : (tailR fs)[j]? = fs[sureN fs + j]? := by unfold tailR; rw [List.getElem?_drop]
theorem tail_kind {n : Int} {fs : List Rec} (ho : ∀ r ∈ fs, opOk n r = true) : ∀ r ∈ tailR fs, r.kind = 1 := fun r hr => by
  obtain ⟨j, hj⟩ := List.getElem?_of_mem hr
  rw [tail_get] at hj
  exact (opOk_write (ho r (List.mem_of_getElem? hj)) (sureN_after (Nat.le_add_right _ _) hj)).1
/-- What of a tail is kept. -/
def keptT (keep : List Bool) : Nat → List Rec → List Cel
  | _, [] => []
  | j, r :: t => (if keep.getD j false then [(r.pos, r.dat)] else []) ++ keptT keep (j + 1) t
theorem madeGo_tail {keep : List Bool} {N : Nat} : ∀ (T : List Rec) (j : Nat), (∀ r ∈ T, r.kind = 1) → madeGo keep N (N + j) T = keptT keep j T
  | [], _, _ => rfl
  | r :: t, j, h => by
    have e : isMade keep N (N + j) r = keep.getD j false := by
      unfold isMade
      rw [h r (by simp), Nat.add_sub_cancel_left, decide_eq_false (show ¬ N + j < N by omega)]
      simp
    unfold madeGo keptT
    rw [e, Nat.add_assoc, madeGo_tail t (j + 1) fun r hr => h r (List.mem_cons_of_mem _ hr)]
theorem keptT_nil : ∀ (T : List Rec) (j : Nat), keptT [] j T = []
  | [], _ => rfl
  | r :: t, j => by
    unfold keptT
    rw [keptT_nil t]
    simp
theorem madeL_tail {fs : List Rec} (keep : List Bool) (hk : ∀ r ∈ tailR fs, r.kind = 1) : madeL keep fs = madeL [] fs ++ keptT keep 0 (tailR fs) := by
  have gen : ∀ kp : List Bool, madeL kp fs = madeGo [] (sureN fs) 0 (fs.take (sureN fs)) ++ keptT kp 0 (tailR fs) := fun kp => by
    have hl : (fs.take (sureN fs)).length = sureN fs := by rw [List.length_take]; have := sureN_le fs; omega
    show madeGo kp (sureN fs) 0 fs = _
    conv => lhs; rw [← List.take_append_drop (sureN fs) fs]
    rw [madeGo_append, hl, Nat.zero_add]
    congr 1
    · have := sureN_le fs
      rw [show sureN (fs.take (sureN fs) ++ fs.drop (sureN fs)) = sureN fs by rw [List.take_append_drop]]
      exact madeGo_all _ _ (by omega) (by omega)
    · rw [show sureN (fs.take (sureN fs) ++ fs.drop (sureN fs)) = sureN fs by rw [List.take_append_drop]]
      exact madeGo_tail (N := sureN fs) (tailR fs) 0 hk
  rw [gen keep, gen [], keptT_nil, List.append_nil]
theorem pendUpto_tail {fs : List Rec} (hk : ∀ r ∈ tailR fs, r.kind = 1) : ∀ d : Nat, sureN fs + d ≤ fs.length → pendUpto fs (sureN fs + d) = (List.range d).map fun j => ((sureN fs + j : Nat) : Int)
  | 0, _ => pendUpto_sure fs
  | d + 1, h => by
    have hg : fs[sureN fs + d]? = some fs[sureN fs + d] := List.getElem?_eq_getElem (by omega)
    have hw : isWrite fs (sureN fs + d) = true := by
      unfold isWrite
      rw [hg]
      exact decide_eq_true (hk _ (List.mem_of_getElem? ((tail_get fs d).trans hg)))
    rw [← Nat.add_assoc, pendUpto_next (Nat.le_add_right _ _), hw, pendUpto_tail hk d (by omega), List.range_succ, List.map_append]
    rfl
theorem tail_len (fs : List Rec) : sureN fs + (tailR fs).length = fs.length := by
  unfold tailR
  rw [List.length_drop]
  have := sureN_le fs
  omega
theorem pendL_tail {fs : List Rec} (hk : ∀ r ∈ tailR fs, r.kind = 1) : pendL fs = (List.range (tailR fs).length).map fun j => ((sureN fs + j : Nat) : Int) := by
  have := pendUpto_tail hk (tailR fs).length (by have := tail_len fs; omega)
  rwa [tail_len] at this
/-- A write is told of. -/
def stepT (q : Int) (l : List (Nat → Int)) (r : Rec) : List (Nat → Int) := if r.pos = q then tellL l r.dat else l
theorem fold_tail {fs : List Rec} (q : Int) (s : List (Nat → Int)) : ∀ d : Nat, d ≤ (tailR fs).length → ((List.range d).map fun j => ((sureN fs + j : Nat) : Int)).foldl (stepB fs q) s = ((tailR fs).take d).foldl (stepT q) s
  | 0, _ => rfl
  | d + 1, h => by
    have hg : (tailR fs)[d]? = some (tailR fs)[d] := List.getElem?_eq_getElem (by omega)
    have hg2 := hg
    rw [tail_get] at hg2
    rw [List.range_succ, List.map_append, List.foldl_append, fold_tail q s d (by omega), takeR_snoc hg, List.foldl_append]
    show stepB fs q _ _ = stepT q _ _
    unfold stepB stepT
    rw [Int.toNat_natCast, hg2]
theorem blockL_tail {fs : List Rec} (l : List Cel) (q : Int) (hk : ∀ r ∈ tailR fs, r.kind = 1) : blockL l fs q = (tailR fs).foldl (stepT q) [lastB q nought (l ++ madeL [] fs)] := by
  unfold blockL
  rw [pendL_tail hk, fold_tail q _ _ (Nat.le_refl _), List.take_length]
theorem inB_mem {l : List (Nat → Int)} {f : Nat → Int} (hl : ∀ g ∈ l, Can g) (hf : Can f) : inB l f = true ↔ f ∈ l := by
  unfold inB
  rw [List.any_eq_true]
  constructor
  · rintro ⟨g, hg, h⟩
    first
    | rw [((hl g hg).same hf).1 h] at hg; exact hg
    | rw [← (hf.same (hl g hg)).1 h] at hg; exact hg
  · intro h
    exact ⟨f, h, (hf.same hf).2 rfl⟩
theorem stepT_can {q : Int} {l : List (Nat → Int)} {r : Rec} (hl : ∀ g ∈ l, Can g) (hr : Can r.dat) : ∀ g ∈ stepT q l r, Can g := fun g hg => by
  unfold stepT tellL at hg
  split at hg
  · split at hg
    · exact hl g hg
    · rcases List.mem_append.1 hg with h | h
      · exact hl g h
      · rw [List.mem_singleton.1 h]
        exact hr
  · exact hl g hg
theorem stepT_keep {q : Int} {l : List (Nat → Int)} {r : Rec} {x : Nat → Int} (h : x ∈ l) : x ∈ stepT q l r := by
  unfold stepT tellL
  split
  · split
    · exact h
    · exact List.mem_append_left _ h
  · exact h
theorem foldT_keep {q : Int} {x : Nat → Int} : ∀ {T : List Rec} {s : List (Nat → Int)}, x ∈ s → x ∈ T.foldl (stepT q) s
  | [], _, h => h
  | _ :: t, _, h => foldT_keep (T := t) (stepT_keep h)
theorem foldT_can {q : Int} : ∀ {T : List Rec} {s : List (Nat → Int)}, (∀ g ∈ s, Can g) → (∀ r ∈ T, Can r.dat) → ∀ g ∈ T.foldl (stepT q) s, Can g
  | [], _, h, _ => h
  | r :: t, _, h, hT => foldT_can (T := t) (stepT_can h (hT r (by simp))) fun r hr => hT r (List.mem_cons_of_mem _ hr)
theorem foldT_in {q : Int} : ∀ {T : List Rec} {s : List (Nat → Int)} {r : Rec}, (∀ g ∈ s, Can g) → (∀ r ∈ T, Can r.dat) → r ∈ T → r.pos = q → r.dat ∈ T.foldl (stepT q) s
  | [], _, _, _, _, h, _ => by simp at h
  | x :: t, s, r, hs, hT, h, hq => by
    rcases List.mem_cons.1 h with e | h
    · subst e
      refine foldT_keep (T := t) ?_
      unfold stepT tellL
      rw [if_pos hq]
      split
      · rename_i hi
        exact (inB_mem hs (hT r (by simp))).1 hi
      · simp
    · exact foldT_in (T := t) (stepT_can hs (hT x (by simp))) (fun r hr => hT r (List.mem_cons_of_mem _ hr)) h hq
theorem foldT_of {q : Int} {x : Nat → Int} : ∀ {T : List Rec} {s : List (Nat → Int)}, x ∈ T.foldl (stepT q) s → x ∈ s ∨ ∃ (j : Nat) (r : Rec), T[j]? = some r ∧ r.pos = q ∧ r.dat = x
  | [], _, h => .inl h
  | y :: t, s, h => by
    rcases foldT_of (T := t) h with h | ⟨j, r, h1, h2⟩
    · unfold stepT tellL at h
      split at h
      · rename_i hq
        split at h
        · exact .inl h
        · rcases List.mem_append.1 h with h | h
          · exact .inl h
          · exact .inr ⟨0, y, rfl, hq, (List.mem_singleton.1 h).symm⟩
      · exact .inl h
    · exact .inr ⟨j + 1, r, h1, h2⟩
theorem foldT_head {q : Int} {b : Nat → Int} : ∀ {T : List Rec} {s : List (Nat → Int)}, ∃ t, T.foldl (stepT q) (b :: s) = b :: t
  | [], s => ⟨s, rfl⟩
  | y :: t, s => by
    show ∃ u, t.foldl (stepT q) (stepT q (b :: s) y) = b :: u
    unfold stepT tellL
    split
    · split
      · exact foldT_head (T := t)
      · exact foldT_head (T := t) (s := s ++ [y.dat])
    · exact foldT_head (T := t)
theorem last_kept (q : Int) (keep : List Bool) : ∀ (T : List Rec) (j : Nat) (b : Nat → Int), lastB q b (keptT keep j T) = b ∨ ∃ r ∈ T, r.pos = q ∧ lastB q b (keptT keep j T) = r.dat
  | [], _, _ => .inl rfl
  | r :: t, j, b => by
    unfold keptT
    rw [lastB_append]
    have ih := fun c => last_kept q keep t (j + 1) c
    by_cases hk : keep.getD j false = true
    · rw [if_pos hk]
      show lastB q (if r.pos = q then r.dat else b) _ = b ∨ ∃ x ∈ r :: t, x.pos = q ∧ lastB q (if r.pos = q then r.dat else b) _ = x.dat
      by_cases hq : r.pos = q
      · rw [if_pos hq]
        rcases ih r.dat with h | ⟨x, h1, h2⟩
        · exact .inr ⟨r, by simp, hq, h⟩
        · exact .inr ⟨x, List.mem_cons_of_mem _ h1, h2⟩
      · rw [if_neg hq]
        rcases ih b with h | ⟨x, h1, h2⟩
        · exact .inl h
        · exact .inr ⟨x, List.mem_cons_of_mem _ h1, h2⟩
    · rw [if_neg hk]
      rcases ih b with h | ⟨x, h1, h2⟩
      · exact .inl h
      · exact .inr ⟨x, List.mem_cons_of_mem _ h1, h2⟩
theorem kept_after {keep : List Bool} {k : Nat} (h : ∀ i, keep.getD i false = decide (i = k)) : ∀ (T : List Rec) (j : Nat), k < j → keptT keep j T = []
  | [], _, _ => rfl
  | r :: t, j, hj => by
    unfold keptT
    rw [h j, decide_eq_false (show ¬ j = k by omega), kept_after h t (j + 1) (by omega)]
    rfl
theorem kept_one {keep : List Bool} {k : Nat} (h : ∀ i, keep.getD i false = decide (i = k)) : ∀ (T : List Rec) (j : Nat) {r : Rec}, j ≤ k → T[k - j]? = some r → keptT keep j T = [(r.pos, r.dat)]
  | [], _, _, _, hg => by simp at hg
  | x :: t, j, r, hj, hg => by
    unfold keptT
    rw [h j]
    by_cases e : j = k
    · subst e
      rw [Nat.sub_self] at hg
      obtain rfl : x = r := by simpa using hg
      rw [kept_after h t (j + 1) (by omega)]
      simp
    · rw [decide_eq_false e, kept_one h t (j + 1) (by omega) (r := r) (by rw [show k - j = k - (j + 1) + 1 by omega] at hg; simpa using hg)]
      rfl
theorem only_one {d k : Nat} (h : k < d) : ∀ i, ((List.replicate d false).set k true).getD i false = decide (i = k) := fun i => by
  rw [List.getD_eq_getElem?_getD, List.getElem?_set]
  by_cases e : k = i
  · subst e
    simp [h]
  · rw [if_neg e, List.getElem?_replicate]
    have : decide (i = k) = false := decide_eq_false fun q => e q.symm
    rw [this]
    split <;> rfl
theorem tail_can {fs : List Rec} (hf : ∀ r ∈ fs, Can r.dat) : ∀ r ∈ tailR fs, Can r.dat := fun r hr => hf r (List.mem_of_mem_drop hr)
theorem base_can {l : List Cel} {fs : List Rec} (hl : ∀ c ∈ l, Can c.2) (hf : ∀ r ∈ fs, Can r.dat) (q : Int) : Can (lastB q nought (l ++ madeL [] fs)) := can_lastB q can_nought fun x hx => (List.mem_append.1 hx).elim (hl x) (madeL_can hf x)
section
variable {n : Int} {l : List Cel} {fs : List Rec}
/-- What is told of a block is told by an image with what is kept. -/
theorem some_in (hl : ∀ c ∈ l, Can c.2) (hf : ∀ r ∈ fs, Can r.dat) (ho : ∀ r ∈ fs, opOk n r = true) {la : List Cel} {keep : List Bool} (ha : IsImg n (afterC l fs keep) la) (q : Int) : atL la q ∈ blockL l fs q := by
  have hk := tail_kind ho
  rw [after_at hl hf ha q, madeL_tail keep hk, ← List.append_assoc, lastB_append, blockL_tail l q hk]
  rcases last_kept q keep (tailR fs) 0 (lastB q nought (l ++ madeL [] fs)) with h | ⟨r, h1, h2, h3⟩
  · rw [h]
    exact foldT_keep (by simp)
  · rw [h3]
    exact foldT_in (fun g hg => by rw [List.mem_singleton.1 hg]; exact base_can hl hf q) (tail_can hf) h1 h2
theorem some_head (hl : ∀ c ∈ l, Can c.2) (hf : ∀ r ∈ fs, Can r.dat) (ho : ∀ r ∈ fs, opOk n r = true) {ln : List Cel} (hn : IsImg n (afterC l fs []) ln) (q : Int) : ∃ t, blockL l fs q = atL ln q :: t := by
  rw [after_at hl hf hn q, blockL_tail l q (tail_kind ho)]
  exact foldT_head
theorem some_can (hl : ∀ c ∈ l, Can c.2) (hf : ∀ r ∈ fs, Can r.dat) (ho : ∀ r ∈ fs, opOk n r = true) (q : Int) : ∀ g ∈ blockL l fs q, Can g := by
  rw [blockL_tail l q (tail_kind ho)]
  exact foldT_can (fun g hg => by rw [List.mem_singleton.1 hg]; exact base_can hl hf q) (tail_can hf)
theorem some_of (hl : ∀ c ∈ l, Can c.2) (hf : ∀ r ∈ fs, Can r.dat) (ho : ∀ r ∈ fs, opOk n r = true) {ln : List Cel} (hn : IsImg n (afterC l fs []) ln) (q : Int) {x : Nat → Int} (hx : x ∈ blockL l fs q) : x = atL ln q ∨ ∃ (j : Nat) (r : Rec), (tailR fs)[j]? = some r ∧ r.pos = q ∧ r.dat = x := by
  rw [blockL_tail l q (tail_kind ho)] at hx
  rcases foldT_of hx with h | h
  · left
    rw [after_at hl hf hn q]
    exact List.mem_singleton.1 h
  · exact .inr h
/-- One is kept. -/
theorem some_one (hl : ∀ c ∈ l, Can c.2) (hf : ∀ r ∈ fs, Can r.dat) (ho : ∀ r ∈ fs, opOk n r = true) {lk : List Cel} {d k : Nat} (hd : k < d) {r : Rec} (hr : (tailR fs)[k]? = some r) (h : IsImg n (afterC l fs ((List.replicate d false).set k true)) lk) (q : Int) (hq : r.pos = q) : atL lk q = r.dat := by
  rw [after_at hl hf h q, madeL_tail _ (tail_kind ho), ← List.append_assoc, lastB_append, kept_one (only_one hd) (tailR fs) 0 (Nat.zero_le _) hr]
  show (if r.pos = q then r.dat else _) = _
  rw [if_pos hq]
/-- Behind a barrier nothing is open. -/
theorem some_bar (hl : ∀ c ∈ l, Can c.2) (hf : ∀ r ∈ fs, Can r.dat) (ho : ∀ r ∈ fs, opOk n r = true) {la ln : List Cel} {keep : List Bool} (ht : tailR fs = []) (ha : IsImg n (afterC l fs keep) la) (hn : IsImg n (afterC l fs []) ln) : la = ln := by
  refine rise_ext ha.rise hn.rise ha.sound hn.sound fun k => ?_
  rw [after_at hl hf ha k, after_at hl hf hn k, madeL_tail keep (tail_kind ho), ht]
  simp [keptT]
end
theorem tail_bar {fs : List Rec} {j : Nat} {r : Rec} (hj : j + 1 = fs.length) (hr : fs[j]? = some r) (hk : r.kind = 2) : tailR fs = [] := by
  have : sureN fs = j + 1 := sureN_at hr hk fun i x hi hx => by
    have := (List.getElem?_eq_some_iff.1 hx).1
    omega
  unfold tailR
  rw [this, hj]
  simp
set_option maxRecDepth 20000 in
set_option maxHeartbeats 1000000 in
theorem in_any (l : List (Nat → Int)) (g cap : Nat) (f : Nat → Int) (w : World) (hll : l.length < 9223372036854775807) (hg : g < w.heap.size) (hL : ∀ j x, l[j]? = some x → BlkAt w g (j * 1024) x) :
    Calls Try.prog 25 #[.slice (some ⟨g, 0, none⟩) l.length cap, .agg (blk f)] w fun e w' => e = .returned (.bool (inB l f)) ∧ Below w.heap.size w w' := by
  obtain ⟨F1, hF1⟩ : ∃ F1, blk f = F1 := ⟨_, rfl⟩
  have hB0 := below_new w (.cells F1 40)
  have hG0 := heap_alloc_new w (.cells F1 40)
  rw [hF1]
  have HL : Hid (∀ j x, l[j]? = some x → BlkAt w g (j * 1024) x) := hL
  have HR0 : Hid (inB l f = inB (l.drop 0) f) := rfl
  obtain ⟨res, hres⟩ : ∃ res, inB l f = res := ⟨_, rfl⟩
  rw [hres] at HR0 ⊢
  obtain ⟨W0, hW0⟩ : ∃ W0, W0 = w.alloc (.cells F1 40) := ⟨_, rfl⟩
  rw [← hW0] at hB0 hG0
  have HB0 : Hid (Below w.heap.size w W0) := hB0
  have HG0 : Hid (W0.heap[w.heap.size]? = some (.cells F1 40)) := hG0
  have HW : Hid (W0 = w.alloc (.cells F1 40)) := hW0
  clear hL hres hB0 hG0 hW0
  go_enter Try.func25, Try.ntmps25
  go_wp2
  rw [← HW.out]
  clear HW
  go_loopw [5] (fun s5 wx => ∃ k : Nat, k ≤ l.length ∧ s5 = .int .i64 k ∧ Hid (Below w.heap.size w wx) ∧ Hid (wx.heap[w.heap.size]? = some (.cells F1 40)) ∧ Hid (res = inB (l.drop k) f)) (fun s5 _ => l.length - (intOf s5).toNat)
  case atStart => exact ⟨0, by omega, rfl, HB0.out, HG0.out, HR0.out⟩
  case round =>
    obtain ⟨k, hk, rfl, HB, HG, HR⟩ := hrel
    clear HB0 HG0 HR0
    by_cases hk2 : (k : Int) < l.length
    · have hc : l[k]? = some l[k] := List.getElem?_eq_getElem (by omega)
      have hd : l.drop k = l[k] :: l.drop (k + 1) := List.drop_eq_getElem_cons (by omega)
      generalize l[k] = f0 at hc hd
      obtain ⟨F0, hF0⟩ : ∃ F0, blk f0 = F0 := ⟨_, rfl⟩
      have ld0 : ∀ u, BlkAt u g (k * 1024) f0 ∧ BlkAt u w.heap.size 0 f → (Instr.loadAt 40 (.pointer (some ⟨g, k * 1024, none⟩))).run Try.prog u = .ok (.agg F0) u := fun u hu => by rw [← hF0]; exact loadM hu.1
      have ld1 : ∀ u, BlkAt u g (k * 1024) f0 ∧ BlkAt u w.heap.size 0 f → (Instr.loadAt 40 (.pointer (some ⟨w.heap.size, 0, none⟩))).run Try.prog u = .ok (.agg F1) u := fun u hu => by rw [← hF1]; exact loadM hu.2
      have hSt : BlkAt wr.drew g (k * 1024) f0 ∧ BlkAt wr.drew w.heap.size 0 f := ⟨(HL.out k f0 hc).kept (HB.out.block g hg), BlkAt.of (t := 40) (by rw [hF1]; exact HG.out)⟩
      have hR := HR.out
      rw [hd] at hR
      have hR1 : res = (sameB f0 f || inB (l.drop (k + 1)) f) := hR
      clear hR HR hc hd HL
      cases hsb : sameB f0 f
      · rw [hsb, Bool.false_or] at hR1
        have HR3 : Hid (res = inB (l.drop (k + 1)) f) := hR1
        have HB3 : Hid (Below w.heap.size w wr.drew) := HB.out.drew
        have HG3 : Hid (wr.drew.heap[w.heap.size]? = some (.cells F1 40)) := HG.out
        clear hR1 HB HG
        · skip
          go_wp2
          refine wp_region_ord (S := fun u => BlkAt u g (k * 1024) f0 ∧ BlkAt u w.heap.size 0 f) [(0, true), (1, true), (2, true), (3, true), (4, true), (5, true)]
            (by kernel_rfl) rfl (by kernel_rfl) (fun d _ _ _ _ h => by cases d <;> exact h) hSt ?_
          simp only [inOrd, List.getElem?_cons_zero, List.getElem?_cons_succ]
          refine wpOrd_move rfl _ rfl ?_
          simp only [Act.put, List.setIfInBounds_toArray, List.set_cons_succ, List.set_cons_zero]
          refine wpOrd_move rfl _ rfl ?_
          simp only [Act.put, List.setIfInBounds_toArray, List.set_cons_succ, List.set_cons_zero]
          refine wpOrd_yield (v := .pointer (some ⟨g, k * 1024, none⟩)) rfl (fun u hu => by go_simp) ?_
          simp only [Act.put, List.setIfInBounds_toArray, List.set_cons_succ, List.set_cons_zero]
          refine wpOrd_yield (v := .agg F0) rfl (fun u hu => exec_load rfl rfl (ld0 u hu)) ?_
          simp only [Act.put, List.setIfInBounds_toArray, List.set_cons_succ, List.set_cons_zero]
          refine wpOrd_yield (v := .agg F1) rfl (fun u hu => exec_load rfl rfl (ld1 u hu)) ?_
          simp only [Act.put, List.setIfInBounds_toArray, List.set_cons_succ, List.set_cons_zero]
          refine wpOrd_yield (v := .bool false) rfl (fun u hu => exec_eq40 rfl rfl rfl hF0 hF1 hsb) ?_
          simp only [Act.put, List.setIfInBounds_toArray, List.set_cons_succ, List.set_cons_zero]
          refine wpOrd_nil ?_
          generalize wr.drew = U at *
          go_wp2
          exact ⟨⟨k + 1, by omega, by go_num, HB3.out, HG3.out, HR3.out⟩, by simp [intOf]; omega⟩
      · rw [hsb, Bool.true_or] at hR1
        subst hR1
        have HB3 : Hid (Below w.heap.size w wr.drew) := HB.out.drew
        clear HB HG
        · skip
          go_wp2
          refine wp_region_ord (S := fun u => BlkAt u g (k * 1024) f0 ∧ BlkAt u w.heap.size 0 f) [(0, true), (1, true), (2, true), (3, true), (4, true), (5, true)]
            (by kernel_rfl) rfl (by kernel_rfl) (fun d _ _ _ _ h => by cases d <;> exact h) hSt ?_
          simp only [inOrd, List.getElem?_cons_zero, List.getElem?_cons_succ]
          refine wpOrd_move rfl _ rfl ?_
          simp only [Act.put, List.setIfInBounds_toArray, List.set_cons_succ, List.set_cons_zero]
          refine wpOrd_move rfl _ rfl ?_
          simp only [Act.put, List.setIfInBounds_toArray, List.set_cons_succ, List.set_cons_zero]
          refine wpOrd_yield (v := .pointer (some ⟨g, k * 1024, none⟩)) rfl (fun u hu => by go_simp) ?_
          simp only [Act.put, List.setIfInBounds_toArray, List.set_cons_succ, List.set_cons_zero]
          refine wpOrd_yield (v := .agg F0) rfl (fun u hu => exec_load rfl rfl (ld0 u hu)) ?_
          simp only [Act.put, List.setIfInBounds_toArray, List.set_cons_succ, List.set_cons_zero]
          refine wpOrd_yield (v := .agg F1) rfl (fun u hu => exec_load rfl rfl (ld1 u hu)) ?_
          simp only [Act.put, List.setIfInBounds_toArray, List.set_cons_succ, List.set_cons_zero]
          refine wpOrd_yield (v := .bool true) rfl (fun u hu => exec_eq40 rfl rfl rfl hF0 hF1 hsb) ?_
          simp only [Act.put, List.setIfInBounds_toArray, List.set_cons_succ, List.set_cons_zero]
          refine wpOrd_nil ?_
          generalize wr.drew = U at *
          go_wp2
          go_ret
          exact ⟨rfl, HB3.out⟩
    · have hr0 : res = false := by
        rw [HR.out, List.drop_of_length_le (by omega)]
        rfl
      subst hr0
      go_wp2
      go_ret
      exact ⟨rfl, HB.out⟩
end Go.Proofs.Ytbnbbelkddbndaa
/- The document's image and the program's are one, where the image and the ops may be; no other condition. -/
namespace Go.Proofs.Ytbnbbelkddbndaa
open Go.RowKit
theorem placeI_run (N i : Nat) : ∀ (d s : Nat), placeI ((List.range' s d).map fun j => ((N + j : Nat) : Int)) (i : Int) s = if N + s ≤ i ∧ i < N + s + d then ((i - N : Nat) : Int) else -1
  | 0, s => by
    rw [if_neg (by omega)]
    rfl
  | d + 1, s => by
    have ih := placeI_run N i d (s + 1)
    rw [List.range'_succ, List.map_cons]
    show (if ((N + s : Nat) : Int) = (i : Int) then (s : Int) else placeI ((List.range' (s + 1) d).map fun j => ((N + j : Nat) : Int)) (i : Int) (s + 1)) = _
    rw [ih]
    by_cases h : N + s = i
    · rw [if_pos (by omega), if_pos (by omega)]
      omega
    · rw [if_neg (by omega)]
      by_cases h2 : N + (s + 1) ≤ i ∧ i < N + (s + 1) + d
      · rw [if_pos h2, if_pos (by omega)]
      · rw [if_neg h2, if_neg (by omega)]
theorem refMade_is {fs : List Rec} (hk : ∀ r ∈ tailR fs, r.kind = 1) (keep : List Bool) {i : Nat} (hi : i < fs.length) (r : Rec) : refMade keep (pendL fs) i r = isMade keep (sureN fs) i r := by
  have ht := tail_len fs
  unfold refMade isMade
  rw [pendL_tail hk, List.range_eq_range', placeI_run]
  by_cases h : sureN fs ≤ i
  · rw [if_pos (by omega), show decide ((((i - sureN fs : Nat) : Int)) < 0) = false from decide_eq_false (by omega), show decide (i < sureN fs) = false from decide_eq_false (by omega), Int.toNat_natCast]
  · rw [if_neg (by omega), show decide ((-1 : Int) < 0) = true from rfl, show decide (i < sureN fs) = true from decide_eq_true (by omega)]
    simp
theorem refK_is {l : List Cel} {ops : List Rec} {keep : List Bool} {k : Nat} {n : Int} (hkl : k ≤ ops.length) (hr : Rise (-1) l) (hs : Sound l) (ho : ∀ r ∈ ops.take k, opOk n r = true) (hc : ∀ r ∈ ops, Can r.dat) :
    ∀ i, i ≤ k → Rise (-1) (refK l ops keep (pendL (ops.take k)) i) ∧ Sound (refK l ops keep (pendL (ops.take k)) i) ∧ ∀ q, atL (refK l ops keep (pendL (ops.take k)) i) q = lastB q nought (l ++ madeGo keep (sureN (ops.take k)) 0 ((ops.take k).take i))
  | 0, _ => ⟨hr, hs, fun q => by simp [madeGo, lastB_at q hr, refK]⟩
  | i + 1, h => by
    obtain ⟨h1, h2, h3⟩ := refK_is hkl hr hs ho hc i (by omega)
    have hlen : (ops.take k).length = k := by rw [List.length_take]; omega
    have hg : ops[i]? = some (ops[i]'(by omega)) := List.getElem?_eq_getElem _
    have hm : ops[i]'(by omega) ∈ ops := List.getElem_mem _
    have hg2 : (ops.take k)[i]? = some (ops[i]'(by omega)) := by rw [List.getElem?_take, if_pos (by omega), hg]
    generalize ops[i]'(by omega) = r at hg hg2 hm
    have hmt : r ∈ ops.take k := List.mem_of_getElem? hg2
    rw [refK_at hg, refMade_is (tail_kind ho) keep (by omega) r, takeR_snoc hg2, madeGo_snoc, show ((ops.take k).take i).length = i by rw [List.length_take]; omega]
    cases hmd : isMade keep (sureN (ops.take k)) i r
    · simp only [Bool.false_eq_true, if_false, List.append_nil]
      exact ⟨h1, h2, h3⟩
    · simp only [if_true]
      have hkd : r.kind = 1 := by
        unfold isMade at hmd
        simp at hmd
        exact hmd.1
      have hw := opOk_write (ho r hmt) (by omega)
      obtain ⟨a1, a2, a3⟩ := laid_spec r.pos r.dat (hc r hm) (show (-1 : Int) < r.pos by omega) h1 h2
      refine ⟨a1, a2, fun q => ?_⟩
      rw [a3 q, h3 q, ← List.append_assoc, lastB_snoc]
      by_cases hq : q = r.pos
      · rw [if_pos hq, if_pos hq.symm]
      · rw [if_neg hq, if_neg (fun e => hq e.symm)]
/-- What the program tells is what the document tells. -/
theorem refAfter_is {n : Int} {l la : List Cel} {ops : List Rec} {keep : List Bool} {k : Nat} (hkl : k ≤ ops.length) (hr : Rise (-1) l) (hs : Sound l) (ho : ∀ r ∈ ops.take k, opOk n r = true) (hl : ∀ c ∈ l, Can c.2) (hc : ∀ r ∈ ops, Can r.dat)
    (h : IsImg n (afterC l (ops.take k) keep) la) : la = refK l ops keep (rpUpto ops k) k := by
  rw [rp_eq ops k hkl]
  obtain ⟨a1, a2, a3⟩ := refK_is (keep := keep) hkl hr hs ho hc k (Nat.le_refl _)
  have hb : ∀ q, atL la q = lastB q nought (l ++ madeL keep (ops.take k)) := after_at hl (fun r hr => hc r (List.mem_of_mem_take hr)) h
  refine rise_ext h.rise a1 h.sound a2 fun q => ?_
  rw [hb q, a3 q, List.take_take, Nat.min_self]
  rfl
end Go.Proofs.Ytbnbbelkddbndaa
/- The document's After, of what may not be: the error; lists of at most a million. -/
namespace Go.Proofs.Ytbnbbelkddbndaa
open Go.RowKit Go.Maps
set_option maxRecDepth 20000 in
set_option maxHeartbeats 8000000 in
theorem refAfter_bad (n : Int) (l : List Cel) (p : Option Addr) (cap : Nat) (ops : List Rec) (po : Option Addr) (co : Nat) (k : Int) (ka : Option Addr) (KL kcap : Nat) (w : World)
    (hl : l.length ≤ 400000) (h : ImgAt w p l) (hlo : ops.length ≤ 400000) (ho : OpsAt w po ops) (hm : pmayB n l ops k = false) :
    Calls Try.prog 40 #[.agg #[.int .i64 n, .slice p l.length cap], .slice po ops.length co, .int .i64 k, .slice ka KL kcap] w fun e w' =>
      e = .returned (.tuple #[.agg #[.int .i64 0, .slice none 0 0], .int .i64 2]) ∧ Below w.heap.size w w' := by
  have HMy := Hid.mk' (fun (W : World) (hW : Below w.heap.size w W) => refMay_any n l.length p cap ops po co W (by omega) (ho.later hW))
  have HWh := Hid.mk' (fun (W : World) (hW : Below w.heap.size w W) => rWhole_any n l p cap W (by omega) (h.later hW))
  unfold wholeE at HWh
  unfold pmayB at hm
  generalize mayB n l = m1 at *
  generalize ops.all (opOk n) = m2 at *
  generalize l.length = N at *
  generalize ops.length = M at *
  clear h ho
  have HB0 := Hid.mk' (below_next (below_new w (.cells #[.int .i64 n, .slice p N cap] 24)) (below_new (w.alloc (.cells #[.int .i64 n, .slice p N cap] 24)) (.cells #[.int .i64 0, .slice none 0 0] 24)))
  have HG4 := Hid.mk' (heap_kept (heap_alloc_new w (.cells #[.int .i64 n, .slice p N cap] 24)) (below_new (w.alloc (.cells #[.int .i64 n, .slice p N cap] 24)) (.cells #[.int .i64 0, .slice none 0 0] 24)))
  have hG8 := heap_alloc_new (w.alloc (.cells #[.int .i64 n, .slice p N cap] 24)) (.cells #[.int .i64 0, .slice none 0 0] 24)
  rw [show (w.alloc (.cells #[.int .i64 n, .slice p N cap] 24)).heap.size = w.heap.size + 1 by simp] at hG8
  have HG8 := Hid.mk' hG8
  clear hG8
  go_enter Try.func40, Try.ntmps40
  go_wp2_with (go_at_call 74; fail)
  refine Calls.mono (HMy.out _ HB0.out) ?_
  rintro e W1 ⟨rfl, hb1⟩
  have HB1 := Hid.mk' (below_next HB0.out hb1)
  have HG41 := Hid.mk' (heap_kept HG4.out hb1)
  have HG81 := Hid.mk' (heap_kept HG8.out hb1)
  clear hb1 HB0 HG4 HG8 HMy
  have a0 : W1.cell? ⟨w.heap.size, 0, none⟩ = some (.int .i64 n) := Joins.cell_of_block HG41.out 0
  have a1 : W1.cell? ⟨w.heap.size, 1, none⟩ = some (.slice p N cap) := Joins.cell_of_block HG41.out 1
  go_wp2_with (go_at_call 42; fail)
  refine Calls.mono (HWh.out _ HB1.out) ?_
  rintro e W2 ⟨rfl, hb2⟩
  have HB2 := Hid.mk' (below_next HB1.out hb2)
  have hG82 := heap_kept HG81.out hb2
  clear hb2 HB1 HG41 HG81 HWh a0 a1
  have c80 : W2.cell? ⟨w.heap.size + 1, 0, none⟩ = some (.int .i64 0) := Joins.cell_of_block hG82 0
  have c81 : W2.cell? ⟨w.heap.size + 1, 1, none⟩ = some (.slice none 0 0) := Joins.cell_of_block hG82 1
  have f80 : W2.frozen? ⟨w.heap.size + 1, 0, none⟩ = false := Joins.unfrozen_of_block hG82 0
  have f81 : W2.frozen? ⟨w.heap.size + 1, 1, none⟩ = false := Joins.unfrozen_of_block hG82 1
  have HGz : Hid (((W2.setCell ⟨w.heap.size + 1, 0, none⟩ (.int .i64 0)).setCell ⟨w.heap.size + 1, 1, none⟩ (.slice none 0 0)).heap[w.heap.size + 1]? = some (.cells #[.int .i64 0, .slice none 0 0] 24)) := heap_setCell_same _ _ 1 _ 24 _ (heap_setCell_same W2 _ 0 _ 24 _ hG82)
  have HBz : Hid (Below w.heap.size w ((W2.setCell ⟨w.heap.size + 1, 0, none⟩ (.int .i64 0)).setCell ⟨w.heap.size + 1, 1, none⟩ (.slice none 0 0))) := (HB2.out.setCell (Nat.le_succ _) _).setCell (Nat.le_succ _) _
  clear hG82 HB2
  cases m1
  · clear hm
    go_wp2
    exact retCT rfl (w.heap.size + 1) _ rfl (load24 _ _ _ HGz.out rfl) rfl ⟨rfl, HBz.out⟩
  · cases m2
    · clear hm
      go_wp2
      exact retCT rfl (w.heap.size + 1) _ rfl (load24 _ _ _ HGz.out rfl) rfl ⟨rfl, HBz.out⟩
    · by_cases hk0 : k < 0
      · have d0 : decide (k < 0) = true := decide_eq_true hk0
        clear hm
        go_wp2
        exact retCT rfl (w.heap.size + 1) _ rfl (load24 _ _ _ HGz.out rfl) rfl ⟨rfl, HBz.out⟩
      · have d0 : decide (k < 0) = false := decide_eq_false hk0
        have hk1 : k > M := by simp [hk0] at hm; omega
        have d1 : decide ((M : Int) < k) = true := decide_eq_true hk1
        clear hm
        go_wp2
        exact retCT rfl (w.heap.size + 1) _ rfl (load24 _ _ _ HGz.out rfl) rfl ⟨rfl, HBz.out⟩
end Go.Proofs.Ytbnbbelkddbndaa
