/- What the law itself makes and looks up: a block of one byte; the block of an image at a number; two lists of numbers held against each other; no condition but that lists are not longer than lists can be. -/
import Derived.Test.YtbnbbelkddbndaaBlockOk
namespace Go.Proofs.Ytbnbbelkddbndaa
open Go.RowKit Go.Maps
/-- A block of one byte. -/
def letF (v : Int) : Nat → Int := fun i => if i < 1024 then v else 0
theorem letF_can {v : Int} (h : 0 ≤ v ∧ v ≤ 255) : Can (letF v) := ⟨fun i => by unfold letF; split <;> omega, fun i hi => by unfold letF; rw [if_neg (by omega)]⟩
theorem letF_ne {v : Int} (h : v ≠ 0) : letF v ≠ nought := fun q => h (by have := congrFun q 0; simpa [letF, nought] using this)
theorem letF_inj {u v : Int} (h : letF u = letF v) : u = v := by
  have := congrFun h 0
  simpa [letF] using this
def letU (v : Int) (k : Nat) : Nat → Int := fun i => if i < k then v else 0
theorem letU_next (v : Int) (k : Nat) : upd (letU v k) k v = letU v (k + 1) := by
  funext j
  unfold upd letU
  by_cases h : j = k
  · subst h; simp
  · by_cases h2 : j < k
    · simp [h, h2, show j < k + 1 by omega]
    · simp [h, h2, show ¬ j < k + 1 by omega]
theorem letU_zero (v : Int) : letU v 0 = nought := by funext j; simp [letU, nought]
set_option maxRecDepth 20000 in
set_option maxHeartbeats 1000000 in
theorem letter_any (v : Int) (w : World) : Calls Try.prog 30 #[.int .u8 v] w fun e w' => e = .returned (.agg (blk (letF v))) ∧ Below w.heap.size w w' := by
  obtain ⟨N, hz, eN⟩ : ∃ N, (∀ w : World, (zeroValue 40).run Try.prog w = .ok (.agg (blk N)) w) ∧ N = nought := ⟨nought, zero25, rfl⟩
  obtain ⟨W0, hW0⟩ : ∃ W0, W0 = (w.alloc (.cells (blk N) 40)).alloc (.cells (blk N) 40) := ⟨_, rfl⟩
  have hB : Below w.heap.size w W0 := by
    rw [hW0]
    exact (((Below.refl _ _).alloc (Nat.le_refl _) _).alloc (by simp) _)
  have hR : W0.heap[w.heap.size]? = some (.cells (blk N) 40) := by
    rw [hW0]
    exact heap_kept (heap_alloc_new w _) (below_new _ _)
  have hC : W0.heap[w.heap.size + 1]? = some (.cells (blk (letU v 0)) 40) := by
    rw [hW0, letU_zero, ← eN]
    have := heap_alloc_new (w.alloc (.cells (blk N) 40)) (.cells (blk N) 40)
    rwa [show (w.alloc (.cells (blk N) 40)).heap.size = w.heap.size + 1 by simp] at this
  have HB : Hid (Below w.heap.size w W0) := hB
  have HR : Hid (W0.heap[w.heap.size]? = some (.cells (blk N) 40)) := hR
  have HC : Hid (W0.heap[w.heap.size + 1]? = some (.cells (blk (letU v 0)) 40)) := hC
  have HW : Hid (W0 = (w.alloc (.cells (blk N) 40)).alloc (.cells (blk N) 40)) := hW0
  clear hB hR hC hW0 eN
  go_enter Try.func30, Try.ntmps30
  go_wp2_with (fail)
  rw [← HW.out]
  go_wp2
  clear HW hz
  go_loopw [4] (fun s4 wx => ∃ k : Nat, k ≤ 1024 ∧ s4 = .int .i64 k ∧ Hid (wx.heap[w.heap.size + 1]? = some (.cells (blk (letU v k)) 40)) ∧ Hid (wx.heap[w.heap.size]? = some (.cells (blk N) 40)) ∧ Hid (Below w.heap.size w wx)) (fun s4 _ => 1024 - (intOf s4).toNat)
  case atStart => exact ⟨0, by omega, rfl, HC.out, HR.out, HB.out⟩
  case round =>
    obtain ⟨k, hk, rfl, HC1, HR1, HB1⟩ := hrel
    clear HC HR HB
    by_cases hk2 : (k : Int) < 1024
    · have hk3 : k < 1024 := by omega
      have hc : wr.cell? ⟨w.heap.size + 1, k, none⟩ = some (.int .u8 (letU v k k)) := (Joins.cell_of_block HC1.out k).trans (blk_get _ k hk3)
      have hf : wr.frozen? ⟨w.heap.size + 1, k, none⟩ = false := Joins.unfrozen_of_block HC1.out k
      have HC2 : Hid ((wr.setCell ⟨w.heap.size + 1, k, none⟩ (.int .u8 v)).heap[w.heap.size + 1]? = some (.cells (blk (letU v (k + 1))) 40)) := by
        have := Joins.block_setCell HC1.out (i := k) (.int .u8 v)
        rw [blk_set, letU_next] at this
        exact this
      have HR2 : Hid ((wr.setCell ⟨w.heap.size + 1, k, none⟩ (.int .u8 v)).heap[w.heap.size]? = some (.cells (blk N) 40)) := (Below.heap_setCell _ _ _ _ (by show w.heap.size ≠ w.heap.size + 1; omega)).trans HR1.out
      have HB2 : Hid (Below w.heap.size w (wr.setCell ⟨w.heap.size + 1, k, none⟩ (.int .u8 v))) := HB1.out.setCell (by show w.heap.size ≤ w.heap.size + 1; omega) _
      generalize letU v k k = y at *
      clear HC1 HR1 HB1
      go_wp2
      exact ⟨⟨k + 1, by omega, by go_num, HC2.out, HR2.out, HB2.out⟩, by simp [intOf]; omega⟩
    · obtain rfl : k = 1024 := by omega
      have hC : wr.heap[w.heap.size + 1]? = some (.cells (blk (letF v)) 40) := HC1.out
      have hR := HR1.out
      clear HC1 HR1
      go_wp2_with (first | refine wpList_load25 rfl _ rfl (w.heap.size + 1) rfl _ hC ?_ | refine wpList_store25 rfl _ _ rfl w.heap.size _ rfl rfl _ hR ?_)
      exact ret25 rfl w.heap.size _ rfl (setRow_heap _ _ _ _ _ _ hR) rfl ⟨rfl, below_setRow HB1.out (Nat.le_refl _) _⟩
set_option maxRecDepth 20000 in
set_option maxHeartbeats 1000000 in
theorem blockAt_any (n : Int) (l : List Cel) (p : Option Addr) (cap : Nat) (k : Int) (w : World) (hl : l.length < 9223372036854775807) (h : ImgAt w p l) :
    Calls Try.prog 26 #[.agg #[.int .i64 n, .slice p l.length cap], .int .i64 k] w fun e w' => e = .returned (.agg (blk (atL l k))) ∧ Below w.heap.size w w' := by
  obtain ⟨N, hz, hbd, eN⟩ : ∃ N, (∀ w : World, (zeroValue 40).run Try.prog w = .ok (.agg (blk N)) w) ∧ (∀ u : World, (Instr.build 40 #[]).run Try.prog u = .ok (.agg (blk N)) u) ∧ N = nought := ⟨nought, zero25, built58, rfl⟩
  obtain ⟨W0, hW0⟩ : ∃ W0, W0 = (w.alloc (.cells #[.int .i64 n, .slice p l.length cap] 24)).alloc (.cells (blk N) 40) := ⟨_, rfl⟩
  have hB : Below w.heap.size w W0 := by
    rw [hW0]
    exact (((Below.refl _ _).alloc (Nat.le_refl _) _).alloc (by simp) _)
  have hI : W0.heap[w.heap.size]? = some (.cells #[.int .i64 n, .slice p l.length cap] 24) := by
    rw [hW0]
    exact heap_kept (heap_alloc_new w _) (below_new _ _)
  have hR : W0.heap[w.heap.size + 1]? = some (.cells (blk N) 40) := by
    rw [hW0]
    have := heap_alloc_new (w.alloc (.cells #[.int .i64 n, .slice p l.length cap] 24)) (.cells (blk N) 40)
    rwa [show (w.alloc (.cells #[.int .i64 n, .slice p l.length cap] 24)).heap.size = w.heap.size + 1 by simp] at this
  have HI : Hid (ImgAt w p l) := h
  have HR0 : Hid (atL l k = atL (l.drop 0) k) := rfl
  obtain ⟨res, hres⟩ : ∃ res, atL l k = res := ⟨_, rfl⟩
  rw [hres] at HR0 ⊢
  have HN : Hid (N = nought) := eN
  have i1 : W0.cell? ⟨w.heap.size, 1, none⟩ = some (.slice p l.length cap) := Joins.cell_of_block hI 1
  have HW : Hid (W0 = (w.alloc (.cells #[.int .i64 n, .slice p l.length cap] 24)).alloc (.cells (blk N) 40)) := hW0
  clear hW0 eN h hres
  go_enter Try.func26, Try.ntmps26
  go_wp2_with (fail)
  rw [← HW.out]
  go_wp2
  clear HW hz
  go_loopw [5] (fun s5 wx => ∃ j : Nat, j ≤ l.length ∧ s5 = .int .i64 j ∧ wx = W0 ∧ Hid (res = atL (l.drop j) k)) (fun s5 _ => l.length - (intOf s5).toNat)
  case atStart => exact ⟨0, by omega, rfl, rfl, HR0.out⟩
  case round =>
    obtain ⟨j, hj, rfl, rfl, HR1⟩ := hrel
    clear HR0
    by_cases hj2 : (j : Int) < l.length
    · have hc : l[j]? = some l[j] := List.getElem?_eq_getElem (by omega)
      obtain ⟨b, off, rfl, hlt, hCl⟩ := HI.out (by omega)
      have hd : l.drop j = l[j] :: l.drop (j + 1) := List.drop_eq_getElem_cons (by omega)
      generalize l[j] = c at hc hd
      obtain ⟨q1, q2⟩ := (hCl.later hB hlt) j c hc
      obtain ⟨y, f⟩ := c
      have hR2 := HR1.out
      rw [hd] at hR2
      unfold atL at hR2
      simp only at q1 q2
      clear hCl hd hc HR1
      by_cases hk : y = k
      · rw [if_pos hk] at hR2
        subst hR2
        subst hk
        go_wp2_with (first | (with_reducible refine isLoad 40 ?_; refine wpList_loadM rfl _ rfl b (off + j * 1025 + 1) rfl res q2 ?_) | (with_reducible refine isStore 40 ?_; refine wpList_store25 rfl _ _ rfl (w.heap.size + 1) _ rfl rfl _ hR ?_))
        exact ret25 rfl (w.heap.size + 1) _ rfl (setRow_heap _ _ _ _ _ _ hR) rfl ⟨rfl, below_setRow hB (by omega) _⟩
      · rw [if_neg hk] at hR2
        have HR3 : Hid (res = atL (l.drop (j + 1)) k) := hR2
        have g0 : decide (y = k) = false := decide_eq_false hk
        clear hR2 q2
        go_wp2
        exact ⟨⟨j + 1, by omega, by go_num, by trivial, HR3.out⟩, by simp [intOf]; omega⟩
    · obtain rfl : j = l.length := by omega
      have hR2 := HR1.out
      rw [List.drop_length] at hR2
      have e : res = N := by rw [hR2, HN.out]; rfl
      subst e
      clear hR2 HR1
      go_wp2_with (first | (with_reducible refine isBuild 40 ?_; refine wpList_build58 rfl rfl hbd ?_) | (with_reducible refine isStore 40 ?_; refine wpList_store25 rfl _ _ rfl (w.heap.size + 1) _ rfl rfl _ hR ?_))
      exact ret25 rfl (w.heap.size + 1) _ rfl (setRow_heap _ _ _ _ _ _ hR) rfl ⟨rfl, below_setRow hB (by omega) _⟩
set_option maxRecDepth 20000 in
set_option maxHeartbeats 1000000 in
theorem sameInts_any (s t : List Int) (p q : Option Addr) (cp cq : Nat) (w : World) (hls : s.length < 9223372036854775807) (hs : IntsAt w p s) (ht : IntsAt w q t) :
    Calls Try.prog 29 #[.slice p s.length cp, .slice q t.length cq] w fun e w' => e = .returned (.bool (decide (s = t))) ∧ Below w.heap.size w w' := by
  by_cases hl : s.length = t.length
  · have HS : Hid (IntsAt w p s) := hs
    have HT : Hid (IntsAt w q t) := ht
    have HR : Hid (decide (s = t) = decide (s.drop 0 = t.drop 0)) := rfl
    generalize decide (s = t) = res at *
    obtain ⟨n, hn⟩ : ∃ n, s.length = n := ⟨_, rfl⟩
    have hn2 : t.length = n := by omega
    rw [hn, hn2]
    rw [hn] at hls
    have HL : Hid (s.length = n ∧ t.length = n) := ⟨hn, hn2⟩
    clear hs ht hl hn hn2
    go_enter Try.func29, Try.ntmps29
    go_wp2
    go_loopw [5] (fun s5 wx => ∃ k : Nat, k ≤ n ∧ s5 = .int .i64 k ∧ Hid (Below w.heap.size w wx) ∧ Hid (res = decide (s.drop k = t.drop k))) (fun s5 _ => n - (intOf s5).toNat)
    case atStart => exact ⟨0, by omega, rfl, Below.refl _ _, HR.out⟩
    case round =>
      obtain ⟨k, hk, rfl, HB, HR2⟩ := hrel
      clear HR
      by_cases hk2 : (k : Int) < n
      · obtain ⟨hn, hn2⟩ := HL.out
        have hc : s[k]? = some s[k] := List.getElem?_eq_getElem (by omega)
        have hd : t[k]? = some t[k] := List.getElem?_eq_getElem (by omega)
        have hcd : s.drop k = s[k] :: s.drop (k + 1) := List.drop_eq_getElem_cons (by omega)
        have hdd : t.drop k = t[k] :: t.drop (k + 1) := List.drop_eq_getElem_cons (by omega)
        obtain ⟨b1, o1, rfl, l1, C1⟩ := HS.out (by omega)
        obtain ⟨b2, o2, rfl, l2, C2⟩ := HT.out (by omega)
        generalize s[k] = c at hc hcd
        generalize t[k] = d at hd hdd
        have q1 : wr.cell? ⟨b1, o1 + k, none⟩ = some (.int .i64 c) := (HB.out.cell (p := ⟨b1, o1 + k, none⟩) l1).trans (C1 k c hc)
        have q2 : wr.cell? ⟨b2, o2 + k, none⟩ = some (.int .i64 d) := (HB.out.cell (p := ⟨b2, o2 + k, none⟩) l2).trans (C2 k d hd)
        have hR := HR2.out
        rw [hcd, hdd] at hR
        clear HR2 C1 C2 hcd hdd hc hd hn hn2
        by_cases hcdd : c = d
        · subst hcdd
          have HR3 : Hid (res = decide (s.drop (k + 1) = t.drop (k + 1))) := by
            have e : res = decide (s.drop (k + 1) = t.drop (k + 1)) := by rw [hR]; simp
            exact e
          have g0 : decide (c = c) = true := by simp
          clear hR
          go_wp2
          go_quiet (fail)
          go_wp2
          exact ⟨⟨k + 1, by omega, by go_num, belowN HB.out _, HR3.out⟩, by simp [intOf]; omega⟩
        · have hr0 : res = false := by rw [hR]; simp [hcdd]
          have g0 : decide (c = d) = false := decide_eq_false hcdd
          clear hR
          subst hr0
          go_wp2
          go_quiet (fail)
          go_wp2
          go_ret
          exact ⟨rfl, belowN HB.out _⟩
      · obtain rfl : k = n := by omega
        have hr0 : res = true := by
          obtain ⟨hn, hn2⟩ := HL.out
          rw [HR2.out, List.drop_of_length_le (by omega), List.drop_of_length_le (by omega)]
          rfl
        subst hr0
        go_wp2
        go_ret
        exact ⟨rfl, HB.out⟩
  · have e : decide (s = t) = false := decide_eq_false fun q => hl (by rw [q])
    rw [e]
    have hlI : ¬ ((s.length : Int) = t.length) := by omega
    clear e hs ht
    go_enter Try.func29, Try.ntmps29
    go_wp2
    go_ret
    exact ⟨rfl, Below.refl _ _⟩
end Go.Proofs.Ytbnbbelkddbndaa
