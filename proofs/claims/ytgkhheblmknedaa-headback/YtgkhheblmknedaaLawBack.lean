/- HeadBack's walk; for every geometry, every list and every number. -/
import Derived.Test.YtgkhheblmknedaaBackMath
import Derived.Deep.Cut
import Derived.Deep.CutRange
import Derived.OpenShut
namespace Go.Proofs.Ytgkhheblmknedaa
open Go.RowKit
theorem cell_setRow_other (w : World) (g b o : Nat) (cs : Array Value) (h : b ≠ g) : (w.setRow g cs).cell? ⟨b, o, none⟩ = w.cell? ⟨b, o, none⟩ := by
  simp [World.cell?, setRow_other w g b cs h]
theorem size_setRow (w : World) (g : Nat) (cs : Array Value) : (w.setRow g cs).heap.size = w.heap.size := by simp [World.setRow]
theorem ints_setRow {W : World} {p : Option Addr} {T : List Int} {g : Nat} {cs : Array Value} (h : IntsAt W p T) (hg : 0 < T.length → ∃ b off, p = some ⟨b, off, none⟩ ∧ b < g) : IntsAt (W.setRow g cs) p T := fun h0 => by
  obtain ⟨b, off, h1, h2, h3⟩ := h h0
  obtain ⟨b', off', h4, h5⟩ := hg h0
  rw [h1] at h4
  obtain ⟨rfl, rfl⟩ : b = b' ∧ off = off' := by injection h4 with h4; injection h4 with h4 h6; exact ⟨h4, h6⟩
  exact ⟨b, off, h1, by rw [size_setRow]; exact h2, fun j x hx => by rw [cell_setRow_other _ _ _ _ _ (by omega)]; exact h3 j x hx⟩
set_option maxRecDepth 20000 in
set_option maxHeartbeats 1000000 in
theorem back_not (b l i junk : Int) (v : Value) (w : World) (hb : I64 b) (hf : ¬ Fine b l i) :
    Calls Try.prog 5 #[geoV b l i, v, .int .u32 junk] w fun e w' => e = .returned (.bool true) ∧ Below w.heap.size w w' := by
  have hc := fun w => of_any b l i w hb
  rw [show ofV b l i = layZ from if_neg hf, show ofE b l i = 2 from if_neg hf] at hc
  clear hf
  unfold geoV layZ at *
  unfold lay9 at *
  go_enter Try.func5, Try.ntmps5
  go_wp2_with (first | (go_at_call 19; fail))
  refine (awake_any _).mono ?_
  rintro e W1 ⟨rfl, hb1⟩
  have hG := heap_kept (heap_alloc_new w (.cells #[.int .i64 b, .int .i64 l, .int .i64 i] 23)) hb1
  have HB1 : Hid (Below w.heap.size w W1) := below_next (below_new _ _) hb1
  have c0 : W1.cell? ⟨w.heap.size, 0, none⟩ = some (.int .i64 b) := by rw [cell_of_row _ _ _ _ 23 _ hG]; rfl
  have c1 : W1.cell? ⟨w.heap.size, 1, none⟩ = some (.int .i64 l) := by rw [cell_of_row _ _ _ _ 23 _ hG]; rfl
  have c2 : W1.cell? ⟨w.heap.size, 2, none⟩ = some (.int .i64 i) := by rw [cell_of_row _ _ _ _ 23 _ hG]; rfl
  clear hb1 hG
  go_wp2_with (first | (go_at_call 20; fail))
  refine (hc _).mono ?_
  rintro e W2 ⟨rfl, hb2⟩
  have HB2 : Hid (Below w.heap.size w W2) := below_next HB1.out hb2
  clear hb2 hc HB1 c0 c1 c2
  go_wp2
  go_ret
  exact ⟨rfl, bel_al HB2.out _⟩
set_option maxRecDepth 20000 in
set_option maxHeartbeats 4000000 in
theorem back_fine (b l i junk : Int) (ls : List Int) (p : Option Addr) (cap : Nat) (w : World) (hf : Fine b l i) (hj : U32 junk) (hlen : ls.length < 9223372036854775807) (hls : IntsAt w p ls) :
    Calls Try.prog 5 #[geoV b l i, .slice p ls.length cap, .int .u32 junk] w fun e w' => e = .returned (.bool true) ∧ Below w.heap.size w w' := by
  obtain ⟨m1, m2, m3, m4⟩ := fine_more hf
  have hb : I64 b := by unfold I64; omega
  have hc := fun w => of_any b l i w hb
  rw [show ofV b l i = layV b l i from if_pos hf, show ofE b l i = 0 from if_pos hf] at hc
  have hst : standsB b l i 1 (1 + l) (nodeB i) (bitsAt l i) (bitsB b) (dataAt b l i) = true := decide_eq_true ⟨hf, rfl, rfl, rfl, rfl, rfl, rfl⟩
  have hR := fun W (h : IntsAt W p ls) => right_any b l i 1 (1 + l) (nodeB i) (bitsAt l i) (bitsB b) (dataAt b l i) ls p cap W ⟨m3, m4⟩ ⟨m1, m2⟩ hlen h
  have hE := fun T q c W (h : IntsAt W q T) (hm : MayP (1 + l) b (l - 1) T) => enc_ok b l i 1 (1 + l) (nodeB i) (bitsAt l i) (bitsB b) (dataAt b l i) T q c W hb hst ⟨m3, m4⟩ h (hm.u (by omega) (by omega)) (by have := hm.1; omega) (decide_eq_true hm)
  have hD := fun F (n : Nat) W (hF : ∀ i, 0 ≤ F i ∧ F i ≤ 255) (hN : numN F 0 4 = n) (hn : (n : Int) ≤ l - 1) (hm : MayP (1 + l) b (l - 1) (tgts F n)) => dec_ok b l i 1 (1 + l) (nodeB i) (bitsAt l i) (bitsB b) (dataAt b l i) F n W hb hst ⟨m3, m4⟩ hF hN hn (decide_eq_true hm)
  have hsz : (lay9 b l i 1 (1 + l) (nodeB i) (bitsAt l i) (bitsB b) (dataAt b l i)).size = 9 := rfl
  have h1 := lay_one b l i 1 (1 + l) (nodeB i) (bitsAt l i) (bitsB b) (dataAt b l i)
  unfold layV at hc
  generalize lay9 b l i 1 (1 + l) (nodeB i) (bitsAt l i) (bitsB b) (dataAt b l i) = L at *
  obtain ⟨n, hn⟩ : ∃ n, ls.length = n := ⟨_, rfl⟩
  rw [hn] at hR ⊢
  clear hn
  have HR : Hid _ := hR
  have HE : Hid _ := hE
  have HD : Hid _ := hD
  have HI : Hid (IntsAt w p ls) := hls
  have HJ : Hid _ := hj
  have z25 := zero25
  clear hR hE hD hls hst hf hlen hj
  have g1 : decide (1048576 < b) = false := decide_eq_false (by omega)
  have g2 : decide (256 < l) = false := decide_eq_false (by omega)
  have g3 : decide (l < 32) = false := decide_eq_false (by omega)
  have hw4 : IntKind.i64.wrap (l + 4) = l + 4 := by rw [IntKind.wrap_i64]; omega
  have g4 : decide (b < l + 4) = false := decide_eq_false (by omega)
  unfold geoV at *
  go_enter Try.func5, Try.ntmps5
  go_wp2_with (first | (go_at_call 19; fail))
  refine (awake_any _).mono ?_
  rintro e W1 ⟨rfl, hb1⟩
  have hG := heap_kept (heap_alloc_new w (.cells #[.int .i64 b, .int .i64 l, .int .i64 i] 23)) hb1
  have HB1 : Hid (Below w.heap.size w W1) := below_next (below_new _ _) hb1
  have c0 : W1.cell? ⟨w.heap.size, 0, none⟩ = some (.int .i64 b) := by rw [cell_of_row _ _ _ _ 23 _ hG]; rfl
  have c1 : W1.cell? ⟨w.heap.size, 1, none⟩ = some (.int .i64 l) := by rw [cell_of_row _ _ _ _ 23 _ hG]; rfl
  have c2 : W1.cell? ⟨w.heap.size, 2, none⟩ = some (.int .i64 i) := by rw [cell_of_row _ _ _ _ 23 _ hG]; rfl
  clear hb1
  go_wp2_with (first | (go_at_call 20; fail))
  refine (hc _).mono ?_
  rintro e W2 ⟨rfl, hb2⟩
  have HB2 : Hid (Below w.heap.size w W2) := below_next HB1.out hb2
  have hG2 := heap_kept (heap_kept hG hb2) (below_new W2 (.cells L 26))
  have hL2 := heap_alloc_new W2 (.cells L 26)
  clear hb2 hc HB1 c0 c1 c2 hG
  have c0 : (W2.alloc (.cells L 26)).cell? ⟨w.heap.size, 0, none⟩ = some (.int .i64 b) := by rw [cell_of_row _ _ _ _ 23 _ hG2]; rfl
  have c1 : (W2.alloc (.cells L 26)).cell? ⟨w.heap.size, 1, none⟩ = some (.int .i64 l) := by rw [cell_of_row _ _ _ _ 23 _ hG2]; rfl
  go_wp2_with (first | (with_reducible refine isStore 26 ?_; refine wpList_storeL_new rfl _ _ rfl _ _ hsz rfl h1 _ rfl rfl rfl ?_) | (with_reducible refine isLoad 26 ?_; refine wpList_loadL rfl _ rfl _ rfl _ hsz hL2 ?_) | (go_at_call 21; fail))
  refine (HR.out _ (HI.out.later (bel_al HB2.out _))).mono ?_
  rintro e W3 ⟨v, T, rfl, hown, hmay, hb3⟩
  obtain ⟨pT, cT, rfl, hint, hcap, hpb⟩ := hown.ints
  have hL3 := heap_kept hL2 hb3
  have HB3 : Hid (Below w.heap.size w W3) := below_next (bel_al HB2.out _) hb3
  generalize W2.heap.size = gL at *
  have hu : AllU T := hmay.u (by omega) (by omega)
  obtain ⟨t, ht⟩ : ∃ t, T.length = t := ⟨_, rfl⟩
  have htl : (t : Int) ≤ l - 1 := by have := hmay.1; omega
  have hEn := fun W (h : IntsAt W pT T) => HE.out T pT cT W h hmay
  have hEp := fun W (h : IntsAt W pT (T.take (t - 1))) => HE.out (T.take (t - 1)) pT cT W h (hmay.pre (t - 1))
  rw [List.length_take, ht, show min (t - 1) t = t - 1 by omega] at hEp
  have hDB := fun zs (hz : AllU zs) W => HD.out (wordF ((t : Int) :: (T ++ zs))) t W (wordF_byte _) (wordF_read _ (fun x hx => by
    rcases List.mem_cons.1 hx with rfl | hx
    · exact ⟨by omega, by omega⟩
    · rcases List.mem_append.1 hx with hx | hx
      · exact hu x hx
      · exact hz x hx) 0) htl (by have := head_tgts T zs hu hz (by omega); rw [ht] at this; rw [this]; exact hmay)
  have htg : ∀ zs, AllU zs → tgts (wordF ((t : Int) :: (T ++ zs))) t = T := fun zs hz => by have := head_tgts T zs hu hz (by omega); rw [ht] at this; exact this
  have hDn := fun W => HD.out nought 0 W (fun _ => ⟨Int.le_refl 0, by unfold nought; omega⟩) (by rw [num4]; rfl) (by omega) (mayP_nil _ _ _ (by omega))
  have hSI := fun W q1 q2 c1 c2 (h : IntsAt W q1 T) (h' : IntsAt W q2 T) => sameInts_any T T q1 q2 c1 c2 W (by omega) h h'
  rw [ht] at hEn hSI
  simp only [decide_true] at hSI
  have hBl := fun W => blank_any (headF T) W
  obtain ⟨z, hz⟩ : ∃ z, ((t : Int) == 0) = z := ⟨_, rfl⟩
  rw [head_blank hu (by omega), ht, show decide (t = 0) = z by rw [← hz]; by_cases h : t = 0 <;> simp [h]] at hBl
  have hNe : 0 < t → sameB (headF (T.take (t - 1))) (headF T) = false := fun h0 => head_same (fun x hx => hu x (List.mem_of_mem_take hx)) (by rw [List.length_take]; omega) hu (by omega) (by rw [List.length_take]; omega)
  have hH : headF T = wordF ((t : Int) :: T) := by unfold headF; rw [ht]
  rw [ht] at hcap ⊢
  have HEn : Hid _ := hEn
  have HEp : Hid _ := hEp
  have HDB : Hid (∀ zs, AllU zs → ∀ W, Calls Try.prog 16 #[.agg L, .agg (blk (wordF ((t : Int) :: (T ++ zs))))] W fun e' w' => ∃ q, e' = .returned (.tuple #[.agg #[.slice (some ⟨q, 0, none⟩) t t], .int .i64 0]) ∧ W.heap.size ≤ q ∧ w'.heap[q]? = some (.cells (listRow T) 3) ∧ Below W.heap.size W w') := fun zs hz W => by
    have := hDB zs hz W
    rw [htg zs hz] at this
    exact this
  have hDT := HDB.out [] (fun x hx => by cases hx)
  rw [List.append_nil, ← hH] at hDT
  have HDT : Hid _ := hDT
  have HDn : Hid _ := hDn
  have HSI : Hid _ := hSI
  have HBl : Hid _ := hBl
  have HNe : Hid _ := hNe
  have HH : Hid (headF T = wordF ((t : Int) :: T)) := hH
  have HIT : Hid (IntsAt W3 pT T) := hint
  have HU : Hid (AllU T ∧ T.length = t) := ⟨hu, ht⟩
  clear hEn hEp hDB htg hDn hSI hBl hNe hH hint hpb hown hmay hb3 HR HE HD HI HB2 hu ht hDT hG2 c0 c1 hL2
  generalize headF T = H at *
  generalize headF (T.take (t - 1)) = H' at *
  go_wp2_with (first | (with_reducible refine isLoad 26 ?_; refine wpList_loadL rfl _ rfl _ rfl _ hsz hL3 ?_) | (go_at_call 11; fail))
  refine (HEn.out _ HIT.out).mono ?_
  rintro e W4 ⟨rfl, hb4⟩
  have HB4 : Hid (Below w.heap.size w (W4.alloc (.cells (blk H) 30))) := bel_al (below_next HB3.out hb4) _
  have hL4 := heap_kept (heap_kept hL3 hb4) (below_new W4 (.cells (blk H) 30))
  have hH4 := heap_alloc_new W4 (.cells (blk H) 30)
  have HI4 : Hid (IntsAt (W4.alloc (.cells (blk H) 30)) pT T) := (HIT.out.later hb4).later (below_new _ _)
  clear hb4 HB3 HEn HIT hL3
  go_wp2_with (first | (with_reducible refine isStore 30 ?_; refine wpList_store25_new rfl _ _ rfl _ _ rfl rfl ?_) | (with_reducible refine isLoad 26 ?_; refine wpList_loadL rfl _ rfl _ rfl _ hsz hL4 ?_) | (with_reducible refine isLoad 30 ?_; refine wpList_load25 rfl _ rfl _ rfl _ hH4 ?_) | (go_at_call 16; fail))
  generalize W4.heap.size = gH at *
  generalize W4.alloc (.cells (blk H) 30) = X4 at *
  refine (HDT.out _).mono ?_
  rintro e W5 ⟨q5, rfl, hq5, hr5, hb5⟩
  have hL5 := heap_kept hL4 hb5
  have hH5 := heap_kept hH4 hb5
  have HI5 : Hid (IntsAt W5 pT T) := HI4.out.later hb5
  have HB5 : Hid (Below w.heap.size w W5) := below_next HB4.out hb5
  have HbD : Hid ((0 < T.length → ∃ b off, pT = some ⟨b, off, none⟩ ∧ b < W5.heap.size) ∧ w.heap.size ≤ W5.heap.size) := ⟨fun h0 => by obtain ⟨b', o', e', l', _⟩ := HI5.out h0; exact ⟨b', o', e', l'⟩, HB5.out.size⟩
  clear hb5 HB4 HDT HI4 hL4 hH4
  have hL5' := heap_kept hL5 (below_new W5 (.cells #[.slice (some ⟨q5, 0, none⟩) t t] 35))
  go_wp2_with (first | (with_reducible refine isLoad 26 ?_; refine wpList_loadL rfl _ rfl _ rfl _ hsz hL5' ?_) | (with_reducible refine isBuild 30 ?_; refine wpList_build30w rfl rfl ?_) | (go_at_call 16; fail))
  refine (HDn.out _).mono ?_
  rintro e W6 ⟨q6, rfl, hq6, hr6, hb6⟩
  have hbb := (below_new W5 (.cells #[.slice (some ⟨q5, 0, none⟩) t t] 35))
  have hL6 := heap_kept (heap_kept hL5' hb6) (below_new W6 (.cells #[.slice (some ⟨q6, 0, none⟩) 0 0] 35))
  have hH6 := heap_kept (heap_kept (heap_kept hH5 hbb) hb6) (below_new W6 (.cells #[.slice (some ⟨q6, 0, none⟩) 0 0] 35))
  have hr5' := heap_kept (heap_kept (heap_kept hr5 hbb) hb6) (below_new W6 (.cells #[.slice (some ⟨q6, 0, none⟩) 0 0] 35))
  have hT6 := heap_kept (heap_kept (heap_alloc_new W5 (.cells #[.slice (some ⟨q5, 0, none⟩) t t] 35)) hb6) (below_new W6 (.cells #[.slice (some ⟨q6, 0, none⟩) 0 0] 35))
  have hN6 := heap_alloc_new W6 (.cells #[.slice (some ⟨q6, 0, none⟩) 0 0] 35)
  have HI6 : Hid (IntsAt (W6.alloc (.cells #[.slice (some ⟨q6, 0, none⟩) 0 0] 35)) pT T) := ((HI5.out.later hbb).later hb6).later (below_new _ _)
  have HB6 : Hid (Below w.heap.size w (W6.alloc (.cells #[.slice (some ⟨q6, 0, none⟩) 0 0] 35))) := bel_al (below_next (bel_al HB5.out _) hb6) _
  clear hb6 HB5 HDn HI5 hL5 hL5' hH5 hr5 hr6 hbb hq5 hq6
  have cN := cell_one hN6
  have cT6 := cell_one hT6
  generalize W5.heap.size = gD at *
  go_wp2_with (first | (go_at_call 17; fail))
  generalize W6.heap.size = gN at *
  generalize W6.alloc (.cells #[.slice (some ⟨q6, 0, none⟩) 0 0] 35) = X6 at *
  refine (HSI.out _ _ _ _ _ (listRow_at hr5') HI6.out).mono ?_
  rintro e W7 ⟨rfl, hb7⟩
  have hL7 := heap_kept hL6 hb7
  have hH7 := heap_kept hH6 hb7
  have hT7 := heap_kept hT6 hb7
  have HI7 : Hid (IntsAt W7 pT T) := HI6.out.later hb7
  have HB7 : Hid (Below w.heap.size w W7) := below_next HB6.out hb7
  clear hb7 hL6 hH6 hr5' hT6 hN6 HI6 HB6 cN cT6
  go_wp2_with (first | (with_reducible refine isLoad 30 ?_; refine wpList_load30w rfl _ rfl _ rfl _ hH7 ?_) | (go_at_call 22; fail))
  refine (HBl.out _).mono ?_
  rintro e W8 ⟨rfl, hb8⟩
  have hL8 := heap_kept hL7 hb8
  have hH8 := heap_kept hH7 hb8
  have hT8 := heap_kept hT7 hb8
  have HI8 : Hid (IntsAt W8 pT T) := HI7.out.later hb8
  have HB8 : Hid (Below w.heap.size w W8) := below_next HB7.out hb8
  clear hb8 hL7 hH7 hT7 HI7 HB7 HBl
  have ht1 : IntKind.i64.wrap ((t : Int) + 1) = (t : Int) + 1 := by rw [IntKind.wrap_i64]; omega
  go_wp2_with (first | (with_reducible refine isLoad 30 ?_; refine wpList_load25 rfl _ rfl _ rfl _ hH8 ?_) | (with_reducible refine isStore 30 ?_; refine wpList_store25_new rfl _ _ rfl _ _ rfl rfl ?_))
  have HG0 : Hid ((W8.alloc (.cells (blk H) 30)).heap[W8.heap.size]? = some (.cells (blk (wordF ((t : Int) :: (T ++ List.replicate 0 junk)))) 30)) := by
    have := heap_alloc_new W8 (.cells (blk H) 30)
    rw [List.replicate_zero, List.append_nil, ← HH.out]
    exact this
  go_loopw [18] (fun s18 wx => ∃ k : Nat, t + 1 + k ≤ 256 ∧ s18 = .int .i64 ((t : Int) + 1 + (k : Int)) ∧ wx.heap[W8.heap.size]? = some (.cells (blk (wordF ((t : Int) :: (T ++ List.replicate k junk)))) 30) ∧ Below W8.heap.size W8 wx) (fun s18 _ => 256 - (intOf s18).toNat)
  case atStart => exact ⟨0, by omega, by simp, HG0.out, below_new _ _⟩
  case round =>
    obtain ⟨k, hk, rfl, hg, hbel⟩ := hrel
    have HW : Hid _ := hbel
    clear hbel HG0
    by_cases hk2 : (t : Int) + 1 + (k : Int) < 256
    · have hst := fun (w : World) => set32_any (wordF ((t : Int) :: (T ++ List.replicate k junk))) (4 * ((t : Int) + 1 + (k : Int))) junk w HJ.out
      have hsn := wordF_snoc ((t : Int) :: (T ++ List.replicate k junk)) junk HJ.out (by have := HU.out.2; simp; omega)
      rw [show (((t : Int) :: (T ++ List.replicate k junk)).length : Nat) = t + 1 + k by have := HU.out.2; simp; omega, List.cons_append, List.append_assoc, ← List.replicate_succ'] at hsn
      rw [show 4 * ((t : Int) + 1 + (k : Int)) = ((4 * (t + 1 + k) : Nat) : Int) by omega, hsn, show ((4 * (t + 1 + k) : Nat) : Int) = 4 * ((t : Int) + 1 + (k : Int)) by omega] at hst
      have HST : Hid _ := hst
      have hwm : IntKind.i64.wrap (4 * ((t : Int) + 1 + (k : Int))) = 4 * ((t : Int) + 1 + (k : Int)) := by rw [IntKind.wrap_i64]; omega
      have hwa : IntKind.i64.wrap ((t : Int) + 1 + (k : Int) + 1) = (t : Int) + 1 + (k : Int) + 1 := by rw [IntKind.wrap_i64]; omega
      generalize wordF ((t : Int) :: (T ++ List.replicate k junk)) = F at *
      generalize hF' : wordF ((t : Int) :: (T ++ List.replicate (k + 1) junk)) = F' at *
      have HF' : Hid _ := hF'
      clear hst hsn hF'
      go_wp2_with (first | (with_reducible refine isLoad 30 ?_; refine wpList_load25 rfl _ rfl _ rfl _ hg ?_) | (go_at_call 23; fail))
      refine (HST.out _).mono ?_
      rintro e X ⟨rfl, hbx⟩
      have hg1 := heap_kept hg hbx
      have HB1 : Hid (Below W8.heap.size W8 X) := below_next HW.out hbx
      have hg2 := setRow_heap X W8.heap.size (blk F) (blk F') 30 (0, 0) hg1
      have HB2' : Hid (Below W8.heap.size W8 (X.setRow W8.heap.size (blk F'))) := below_setRow HB1.out (Nat.le_refl _) _
      clear HW HST hbx hg
      go_wp2_with (first | (with_reducible refine isStore 30 ?_; refine wpList_store25 rfl _ _ rfl _ _ rfl rfl _ hg1 ?_))
      exact ⟨⟨k + 1, by omega, by congr 1, by rw [HF'.out]; exact hg2, HB2'.out⟩, by simp [intOf]; omega⟩
    · have hke : t + 1 + k = 256 := by omega
      have hDB := HDB.out (List.replicate k junk) (fun x hx => by rw [List.eq_of_mem_replicate hx]; exact HJ.out)
      generalize wordF ((t : Int) :: (T ++ List.replicate k junk)) = F at *
      have hL9 := heap_kept hL8 HW.out
      have hH9 := heap_kept hH8 HW.out
      have hT9 := heap_kept hT8 HW.out
      have HI9 : Hid (IntsAt wr pT T) := HI8.out.later HW.out
      have HB9 : Hid (Below w.heap.size w wr) := HB8.out.trans (HW.out.mono HB8.out.size)
      clear HW HDB hL8 hH8 hT8 HI8 HB8 hke
      go_wp2_with (first | (with_reducible refine isLoad 26 ?_; refine wpList_loadL rfl _ rfl _ rfl _ hsz hL9 ?_) | (with_reducible refine isLoad 30 ?_; refine wpList_load25 rfl _ rfl _ rfl _ hg ?_) | (go_at_call 16; fail))
      refine (hDB _).mono ?_
      rintro e W10 ⟨q10, rfl, hq10, hr10, hb10⟩
      have hL10 := heap_kept hL9 hb10
      have hH10 := heap_kept hH9 hb10
      have hT10 := heap_kept hT9 hb10
      have hqn : q10 ≠ gD := fun e => by rw [e, hT10] at hr10; simp at hr10
      have hLn : gL ≠ gD := fun e => by rw [e, hT10] at hL10; simp at hL10
      have hHn : gH ≠ gD := fun e => by rw [e, hT10] at hH10; simp at hH10
      have hL11 := (setRow_other W10 gD gL #[.slice (some ⟨q10, 0, none⟩) t t] hLn).trans hL10
      have hH11 := (setRow_other W10 gD gH #[.slice (some ⟨q10, 0, none⟩) t t] hHn).trans hH10
      have hr11 := (setRow_other W10 gD q10 #[.slice (some ⟨q10, 0, none⟩) t t] hqn).trans hr10
      have hT11 := setRow_heap W10 gD _ #[.slice (some ⟨q10, 0, none⟩) t t] 35 (0, 0) hT10
      have HI11 : Hid (IntsAt (W10.setRow gD #[.slice (some ⟨q10, 0, none⟩) t t]) pT T) := ints_setRow (HI9.out.later hb10) HbD.out.1
      have HB11 : Hid (Below w.heap.size w (W10.setRow gD #[.slice (some ⟨q10, 0, none⟩) t t])) := below_setRow (below_next HB9.out hb10) HbD.out.2 _
      clear hb10 hq10 hL9 hH9 hT9 HI9 HB9 hL10 hH10 hr10 hqn hLn hHn hDB hg HbD
      have c11 := cell_one hT11
      go_wp2_with (first | (with_reducible refine isStore 35 ?_; refine wpList_store35H rfl _ _ rfl _ _ _ rfl rfl rfl hT10 ?_) | (go_at_call 17; fail))
      generalize W10.setRow gD #[.slice (some ⟨q10, 0, none⟩) t t] = X11 at *
      refine (HSI.out _ _ _ _ _ (listRow_at hr11) HI11.out).mono ?_
      rintro e W12 ⟨rfl, hb12⟩
      have hL12 := heap_kept hL11 hb12
      have hH12 := heap_kept hH11 hb12
      have HI12 : Hid (IntsAt W12 pT T) := HI11.out.later hb12
      have HB12 : Hid (Below w.heap.size w W12) := below_next HB11.out hb12
      clear hb12 hL11 hH11 hr11 hT11 HI11 HB11 c11 HSI hT10
      cases z
      · have ht0 : 0 < t := by rcases Nat.eq_zero_or_pos t with h | h; (subst h; simp at hz); exact h
        have hne := HNe.out ht0
        obtain ⟨b5, o5, rfl, l5, _⟩ := HI12.out (by rw [HU.out.2]; exact ht0)
        have HI13 : Hid (IntsAt W12 (some ⟨b5, o5, none⟩) (T.take (t - 1))) := ints_pre HI12.out _
        clear HI12 HNe HH HJ
        have hws : IntKind.i64.wrap ((t : Int) - 1) = (t : Int) - 1 := by rw [IntKind.wrap_i64]; omega
        go_wp2
        refine wp_region_two (S := fun u => Below W12.heap.size W12 u) [0, 1, 2, 3, 4, 5, 6] 7 11 [.inl 8, .inl 9, .inl 10, .inr (.inl 11), .inr (.inl 12), .inl 13] [.inr (.inl 7), .inl 8, .inl 9, .inl 10, .inr (.inl 12), .inl 13] (by kernel_rfl) rfl rfl (by kernel_rfl) (fun d _ _ _ _ h => by cases d <;> exact h) (drew_below W12) ?_
        refine wpTwo_yield (v := .agg L) rfl rfl (fun u hu => by exact exec_loadL rfl rfl hsz (heap_kept hL12 hu)) ?_
        simp only [Act.put, List.setIfInBounds_toArray, List.set_cons_succ, List.set_cons_zero]
        refine wpTwo_yield (v := .slice (some ⟨b5, o5, none⟩) t cT) rfl rfl (fun u _ => by simp [execOp, Act.eval]) ?_
        simp only [Act.put, List.setIfInBounds_toArray, List.set_cons_succ, List.set_cons_zero]
        refine wpTwo_yield (v := .slice (some ⟨b5, o5, none⟩) t cT) rfl rfl (fun u _ => by simp [execOp, Act.eval]) ?_
        simp only [Act.put, List.setIfInBounds_toArray, List.set_cons_succ, List.set_cons_zero]
        refine wpTwo_yield (v := .int .i64 (t : Int)) rfl rfl (fun u _ => by go_simp) ?_
        simp only [Act.put, List.setIfInBounds_toArray, List.set_cons_succ, List.set_cons_zero]
        refine wpTwo_yield (v := .int .i64 ((t : Int) - 1)) rfl rfl (fun u _ => by go_simp) ?_
        simp only [Act.put, List.setIfInBounds_toArray, List.set_cons_succ, List.set_cons_zero]
        refine wpTwo_yield (v := .slice (some ⟨b5, o5, none⟩) (t - 1) cT) rfl rfl (fun u _ => by go_simp; intro h; have := h (by omega); omega) ?_
        simp only [Act.put, List.setIfInBounds_toArray, List.set_cons_succ, List.set_cons_zero]
        refine wpTwo_yield (v := .agg #[.slice (some ⟨b5, o5, none⟩) (t - 1) cT]) rfl rfl (fun u _ => by go_simp) ?_
        simp only [Act.put, List.setIfInBounds_toArray, List.set_cons_succ, List.set_cons_zero]
        have hq := drew_below W12
        generalize W12.drew = V at *
        refine wpTwo_nil rfl rfl ?_ ?_
        · refine act_call rfl 11 _ _ rfl Try.call11 [.agg L, .agg #[.slice (some ⟨b5, o5, none⟩) (t - 1) cT]] rfl ?_
          refine (HEp.out _ (HI13.out.later hq)).mono ?_
          rintro e' X ⟨rfl, hbx⟩
          have hq2 := below_next hq hbx
          refine ⟨_, rfl, hq2, ?_⟩
          simp only [Act.put, List.setIfInBounds_toArray, List.set_cons_succ, List.set_cons_zero]
          simp only [inSt, List.getElem?_cons_zero, List.getElem?_cons_succ]
          refine wpSt_yield (v := .tuple #[.agg (blk H'), .int .i64 0]) rfl (fun u _ => by simp [execOp, Act.eval]) ?_
          simp only [Act.put, List.setIfInBounds_toArray, List.set_cons_succ, List.set_cons_zero]
          refine wpSt_yield (v := .agg (blk H')) rfl (fun u _ => by go_simp) ?_
          simp only [Act.put, List.setIfInBounds_toArray, List.set_cons_succ, List.set_cons_zero]
          refine wpSt_yield (v := .int .i64 0) rfl (fun u _ => by go_simp) ?_
          simp only [Act.put, List.setIfInBounds_toArray, List.set_cons_succ, List.set_cons_zero]
          refine wpSt_act (act_makes rfl (exec_allocB rfl) (hq2.alloc hq2.size _) ?_)
          simp only [Act.put, List.setIfInBounds_toArray, List.set_cons_succ, List.set_cons_zero]
          have hgB := heap_alloc_new X (.cells (blk nought) 30)
          have hq3 : Below W12.heap.size W12 (X.alloc (.cells (blk nought) 30)) := hq2.alloc hq2.size _
          have hge := hq2.size
          generalize X.alloc (.cells (blk nought) 30) = Z at *
          generalize X.heap.size = gB at *
          clear hq2 hq hbx
          refine wpSt_act (act_done rfl (exec_storeB rfl gB H' nought rfl rfl hgB) (below_setRow hq3 hge _) ?_)
          simp only [Act.put]
          refine wpSt_yield (v := .int .i64 0) rfl (fun u _ => by simp [execOp, Act.eval]) ?_
          simp only [Act.put, List.setIfInBounds_toArray, List.set_cons_succ, List.set_cons_zero]
          refine wpSt_nil ?_
          have hZ := setRow_heap Z gB (blk nought) (blk H') 30 (0, 0) hgB
          have HZ : Hid (Below W12.heap.size W12 (Z.setRow gB (blk H'))) := below_setRow hq3 hge _
          generalize Z.setRow gB (blk H') = Z2 at hZ HZ ⊢
          have hH13 := heap_kept hH12 HZ.out
          have HB13 : Hid (Below w.heap.size w Z2) := HB12.out.trans (HZ.out.mono HB12.out.size)
          clear hgB hq3 hge HZ
          go_wp2_with (first | (with_reducible refine isLoad 30 ?_; refine wpList_load30w rfl (.tmp 19) rfl _ rfl _ hZ ?_) | (with_reducible refine isLoad 30 ?_; refine wpList_load30w rfl (.tmp 11) rfl _ rfl _ hH13 ?_) | (with_reducible refine isEq 30 30 ?_; refine wpList_neq30 rfl _ _ rfl H' H false rfl rfl hne ?_))
          go_ret
          exact ⟨rfl, HB13.out⟩
        · refine act_makes rfl (exec_allocB rfl) (hq.alloc hq.size _) ?_
          simp only [Act.put, List.setIfInBounds_toArray, List.set_cons_succ, List.set_cons_zero]
          have hgA := heap_alloc_new V (.cells (blk nought) 30)
          have hge := hq.size
          have hq : Below W12.heap.size W12 (V.alloc (.cells (blk nought) 30)) := hq.alloc hq.size _
          generalize V.alloc (.cells (blk nought) 30) = V2 at *
          generalize V.heap.size = gB at *
          simp only [inSt, List.getElem?_cons_zero, List.getElem?_cons_succ]
          refine wpSt_act ?_
          refine act_call rfl 11 _ _ rfl Try.call11 [.agg L, .agg #[.slice (some ⟨b5, o5, none⟩) (t - 1) cT]] rfl ?_
          refine (HEp.out _ (HI13.out.later hq)).mono ?_
          rintro e' X ⟨rfl, hbx⟩
          have hq2 := below_next hq hbx
          refine ⟨_, rfl, hq2, ?_⟩
          simp only [Act.put, List.setIfInBounds_toArray, List.set_cons_succ, List.set_cons_zero]
          refine wpSt_yield (v := .tuple #[.agg (blk H'), .int .i64 0]) rfl (fun u _ => by simp [execOp, Act.eval]) ?_
          simp only [Act.put, List.setIfInBounds_toArray, List.set_cons_succ, List.set_cons_zero]
          refine wpSt_yield (v := .agg (blk H')) rfl (fun u _ => by go_simp) ?_
          simp only [Act.put, List.setIfInBounds_toArray, List.set_cons_succ, List.set_cons_zero]
          refine wpSt_yield (v := .int .i64 0) rfl (fun u _ => by go_simp) ?_
          simp only [Act.put, List.setIfInBounds_toArray, List.set_cons_succ, List.set_cons_zero]
          have hgB := heap_kept hgA hbx
          have hq3 := hq2
          generalize X = Z at *
          clear hq2 hq hbx hgA
          refine wpSt_act (act_done rfl (exec_storeB rfl gB H' nought rfl rfl hgB) (below_setRow hq3 hge _) ?_)
          simp only [Act.put]
          refine wpSt_yield (v := .int .i64 0) rfl (fun u _ => by simp [execOp, Act.eval]) ?_
          simp only [Act.put, List.setIfInBounds_toArray, List.set_cons_succ, List.set_cons_zero]
          refine wpSt_nil ?_
          have hZ := setRow_heap Z gB (blk nought) (blk H') 30 (0, 0) hgB
          have HZ : Hid (Below W12.heap.size W12 (Z.setRow gB (blk H'))) := below_setRow hq3 hge _
          generalize Z.setRow gB (blk H') = Z2 at hZ HZ ⊢
          have hH13 := heap_kept hH12 HZ.out
          have HB13 : Hid (Below w.heap.size w Z2) := HB12.out.trans (HZ.out.mono HB12.out.size)
          clear hgB hq3 hge HZ
          go_wp2_with (first | (with_reducible refine isLoad 30 ?_; refine wpList_load30w rfl (.tmp 19) rfl _ rfl _ hZ ?_) | (with_reducible refine isLoad 30 ?_; refine wpList_load30w rfl (.tmp 11) rfl _ rfl _ hH13 ?_) | (with_reducible refine isEq 30 30 ?_; refine wpList_neq30 rfl _ _ rfl H' H false rfl rfl hne ?_))
          go_ret
          exact ⟨rfl, HB13.out⟩
      · go_wp2
        go_ret
        exact ⟨rfl, HB12.out⟩
theorem law_back {w : World} (b l i : Int) (hb : I64 b) (_ : I64 l) (_ : I64 i) (ls : List Int) (p : Option Addr) (cap : Nat) (hlen : ls.length < 9223372036854775807) (hls : IntsAt w p ls) (_ : WfI ls) (junk : Int) (hj : (Lit.int .u32 junk).wf = true) :
    Calls Try.prog 5 #[geoV b l i, .slice p ls.length cap, .int .u32 junk] w fun e W => e = .returned (.bool true) ∧ Below w.heap.size w W := by
  by_cases hf : Fine b l i
  · exact back_fine b l i junk ls p cap _ hf (by have := bounds_u32 hj; exact ⟨by omega, by omega⟩) hlen hls
  · exact back_not b l i junk _ _ hb hf
end Go.Proofs.Ytgkhheblmknedaa
