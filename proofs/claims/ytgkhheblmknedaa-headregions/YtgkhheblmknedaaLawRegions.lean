/- HeadRegions' walk; for every geometry and every list. -/
import Derived.Test.YtgkhheblmknedaaDecAll
import Derived.Test.YtgkhheblmknedaaNumbered
import Derived.Test.YtgkhheblmknedaaBackMath
import Derived.Deep.Cut
import Derived.Deep.CutRange
import Derived.OpenShut
namespace Go.Proofs.Ytgkhheblmknedaa
open Go.RowKit
theorem cell_setRow_ne (w : World) (g b o : Nat) (cs : Array Value) (h : b ≠ g) : (w.setRow g cs).cell? ⟨b, o, none⟩ = w.cell? ⟨b, o, none⟩ := by
  simp [World.cell?, setRow_other w g b cs h]
theorem ints_setNe {W : World} {p : Option Addr} {T : List Int} {g : Nat} {cs : Array Value} (h : IntsAt W p T) (hg : ∀ b off, p = some ⟨b, off, none⟩ → b ≠ g) : IntsAt (W.setRow g cs) p T := fun h0 => by
  obtain ⟨b, off, h1, h2, h3⟩ := h h0
  exact ⟨b, off, h1, by simp [World.setRow]; exact h2, fun j x hx => by rw [cell_setRow_ne _ _ _ _ _ (hg b off h1)]; exact h3 j x hx⟩
theorem dec_ne {W : World} {B : Nat} {p : Option Addr} {T : List Int} (h : p = none ∧ T = [] ∨ ∃ q, p = some ⟨q, 0, none⟩ ∧ B ≤ q ∧ W.heap[q]? = some (.cells (listRow T) 3)) {g : Nat} (hg : g < B ∨ W.heap.size ≤ g) : ∀ b off, p = some ⟨b, off, none⟩ → b ≠ g := fun b off hp => by
  rcases h with ⟨rfl, _⟩ | ⟨q, rfl, h1, h2⟩
  · cases hp
  · injection hp with hp
    injection hp with hp
    have := (Array.getElem?_eq_some_iff.1 h2).1
    omega
set_option maxRecDepth 20000 in
set_option maxHeartbeats 1000000 in
theorem regions_not (b l i : Int) (v : Value) (w : World) (hb : I64 b) (hf : ¬ Fine b l i) :
    Calls Try.prog 6 #[geoV b l i, v] w fun e w' => e = .returned (.bool true) ∧ Below w.heap.size w w' := by
  have hc := fun w => of_any b l i w hb
  rw [show ofV b l i = layZ from if_neg hf, show ofE b l i = 2 from if_neg hf] at hc
  clear hf
  unfold geoV layZ at *
  unfold lay9 at *
  go_enter Try.func6, Try.ntmps6
  go_wp2_with (first | (go_at_call 19; fail))
  refine (awake_any _).mono ?_
  rintro e W1 ⟨rfl, hb1⟩
  have hG := heap_kept (heap_alloc_new w (.cells #[.int .i64 b, .int .i64 l, .int .i64 i] 23)) hb1
  have HB1 : Hid (Below w.heap.size w W1) := below_next (below_new _ _) hb1
  have c0 : W1.cell? ⟨w.heap.size, 0, none⟩ = some (.int .i64 b) := by rw [cell_of_row _ _ _ _ 23 _ hG]; rfl
  have c1 : W1.cell? ⟨w.heap.size, 1, none⟩ = some (.int .i64 l) := by rw [cell_of_row _ _ _ _ 23 _ hG]; rfl
  have c2 : W1.cell? ⟨w.heap.size, 2, none⟩ = some (.int .i64 i) := by rw [cell_of_row _ _ _ _ 23 _ hG]; rfl
  clear hb1 hG
  go_wp2_with (first | (go_at_call 20; fail))
  refine (hc _).mono ?_
  rintro e W2 ⟨rfl, hb2⟩
  have HB2 : Hid (Below w.heap.size w W2) := below_next HB1.out hb2
  clear hb2 hc HB1 c0 c1 c2
  go_wp2
  go_ret
  exact ⟨rfl, bel_al HB2.out _⟩
theorem where_in {b l i x : Int} (hf : Fine b l i) (h0 : 1 + l ≤ x) (h1 : x < b) : ∃ r, whereN b l i 1 (1 + l) (nodeB i) (bitsAt l i) (bitsB b) (dataAt b l i) x = r ∧ (r = 3 ∨ r = 4 ∨ r = 5) := by
  have hst : standsB b l i 1 (1 + l) (nodeB i) (bitsAt l i) (bitsB b) (dataAt b l i) = true := decide_eq_true ⟨hf, rfl, rfl, rfl, rfl, rfl, rfl⟩
  have := hf.1
  rw [wN (by omega) h1 hst, if_neg (by omega), if_neg (by omega)]
  refine ⟨_, rfl, ?_⟩
  split
  · exact .inl rfl
  · split
    · exact .inr (.inl rfl)
    · exact .inr (.inr rfl)
set_option maxRecDepth 20000 in
set_option maxHeartbeats 4000000 in
theorem regions_fine (b l i : Int) (ws : List Int) (p : Option Addr) (cap : Nat) (w : World) (hf : Fine b l i) (hlen : ws.length < 9223372036854775807) (hws : WordsAt w p ws) (hu : AllU ws) :
    Calls Try.prog 6 #[geoV b l i, .slice p ws.length cap] w fun e w' => e = .returned (.bool true) ∧ Below w.heap.size w w' := by
  obtain ⟨m1, m2, m3, m4⟩ := fine_more hf
  have hb : I64 b := by unfold I64; omega
  have hc := fun w => of_any b l i w hb
  rw [show ofV b l i = layV b l i from if_pos hf, show ofE b l i = 0 from if_pos hf] at hc
  have hst : standsB b l i 1 (1 + l) (nodeB i) (bitsAt l i) (bitsB b) (dataAt b l i) = true := decide_eq_true ⟨hf, rfl, rfl, rfl, rfl, rfl, rfl⟩
  have hN := fun W (h : WordsAt W p ws) => numbered_any ws p cap W hlen h hu
  have hD := fun W => dec_all b l i 1 (1 + l) (nodeB i) (bitsAt l i) (bitsB b) (dataAt b l i) (wordF (ws.take 256)) W hb hst ⟨m3, m4⟩ (wordF_byte _)
  have hWh := fun x W => where_any b l i 1 (1 + l) (nodeB i) (bitsAt l i) (bitsB b) (dataAt b l i) x W hb
  have hWi := fun x (h0 : 1 + l ≤ x) (h1 : x < b) => where_in hf h0 h1
  have hmay := dec_may (lo := 1 + l) (hi := b) (m := l - 1) (F := wordF (ws.take 256))
  have hTu := decL_u (lo := 1 + l) (hi := b) (m := l - 1) (F := wordF (ws.take 256)) (wordF_byte _)
  generalize decL (1 + l) b (l - 1) (wordF (ws.take 256)) = T at *
  generalize decN (1 + l) b (l - 1) (wordF (ws.take 256)) = E at *
  generalize wordF (ws.take 256) = F at *
  have hsz : (lay9 b l i 1 (1 + l) (nodeB i) (bitsAt l i) (bitsB b) (dataAt b l i)).size = 9 := rfl
  have h1 := lay_one b l i 1 (1 + l) (nodeB i) (bitsAt l i) (bitsB b) (dataAt b l i)
  have hL1 : (lay9 b l i 1 (1 + l) (nodeB i) (bitsAt l i) (bitsB b) (dataAt b l i))[1]? = some (.int .i64 l) := rfl
  unfold layV at hc
  generalize lay9 b l i 1 (1 + l) (nodeB i) (bitsAt l i) (bitsB b) (dataAt b l i) = L at *
  generalize whereN b l i 1 (1 + l) (nodeB i) (bitsAt l i) (bitsB b) (dataAt b l i) = wh at *
  obtain ⟨n, hn⟩ : ∃ n, ws.length = n := ⟨_, rfl⟩
  rw [hn] at hN ⊢
  have HN : Hid _ := hN
  have HD : Hid _ := hD
  have HWh : Hid _ := hWh
  have HWi : Hid _ := hWi
  have HM : Hid _ := hmay
  have HI : Hid (WordsAt w p ws) := hws
  have HTu : Hid _ := hTu
  have HL1 : Hid _ := hL1
  clear hN hD hWh hWi hmay hws hu hst hf hlen hTu hL1 hn
  unfold geoV at *
  go_enter Try.func6, Try.ntmps6
  go_wp2_with (first | (go_at_call 19; fail))
  refine (awake_any _).mono ?_
  rintro e W1 ⟨rfl, hb1⟩
  have hG := heap_kept (heap_alloc_new w (.cells #[.int .i64 b, .int .i64 l, .int .i64 i] 23)) hb1
  have HB1 : Hid (Below w.heap.size w W1) := below_next (below_new _ _) hb1
  have c0 : W1.cell? ⟨w.heap.size, 0, none⟩ = some (.int .i64 b) := by rw [cell_of_row _ _ _ _ 23 _ hG]; rfl
  have c1 : W1.cell? ⟨w.heap.size, 1, none⟩ = some (.int .i64 l) := by rw [cell_of_row _ _ _ _ 23 _ hG]; rfl
  have c2 : W1.cell? ⟨w.heap.size, 2, none⟩ = some (.int .i64 i) := by rw [cell_of_row _ _ _ _ 23 _ hG]; rfl
  clear hb1 hG
  go_wp2_with (first | (go_at_call 20; fail))
  refine (hc _).mono ?_
  rintro e W2 ⟨rfl, hb2⟩
  have HB3 : Hid (Below w.heap.size w (W2.alloc (.cells L 26))) := bel_al (below_next HB1.out hb2) _
  have hL3 := heap_alloc_new W2 (.cells L 26)
  clear hb2 hc HB1 c0 c1 c2
  go_upto_region 5 with (with_reducible refine isStore 26 ?_; refine wpList_storeL_new rfl _ _ rfl _ _ hsz rfl h1 _ rfl rfl rfl ?_)
  generalize W2.alloc (.cells L 26) = W3 at *
  generalize W2.heap.size = gL at *
  go_cut [8, 9] from 26 to 32 (fun s8 s9 wc => ∃ (gH : Nat) (q : Option Addr), s8 = .pointer (some ⟨gH, 0, none⟩) ∧ s9 = .int .i64 E ∧ wc.heap[gH]? = some (.cells #[.slice q T.length T.length] 35) ∧ IntsAt wc q T ∧ Below W3.heap.size W3 wc)
  case first =>
    refine wp_region_plan (S := fun u => Below W3.heap.size W3 u) 10 [.inl 0, .inl 1, .inr (.inr (2, 7, 13)), .inr (.inr (3, 7, 6)), .inl 4, .inl 5, .inl 6, .inr (.inl 7), .inr (.inl 8), .inl 9, .inr (.inl 3), .inl 4, .inl 5, .inl 6, .inr (.inl 8), .inl 9, .inr (.inl 2), .inr (.inl 3), .inl 4, .inl 5, .inl 6, .inr (.inl 8), .inl 9] (by kernel_rfl) rfl (by kernel_rfl) (fun d _ _ _ _ h => by cases d <;> exact h) (drew_below W3) ?_
    refine wpPl_yield (v := .agg L) rfl rfl (fun u hu => by exact exec_loadL rfl rfl hsz (heap_kept hL3 hu)) ?_
    simp only [Act.put, List.setIfInBounds_toArray, List.set_cons_succ, List.set_cons_zero]
    refine wpPl_yield (v := .slice p n cap) rfl rfl (fun u _ => by simp [execOp, Act.eval]) ?_
    simp only [Act.put, List.setIfInBounds_toArray, List.set_cons_succ, List.set_cons_zero]
    have hq := drew_below W3
    generalize W3.drew = V at *
    refine wpPl_two (r1 := [.inr (.inr (3, 7, 6)), .inl 4, .inl 5, .inl 6, .inr (.inl 7), .inr (.inl 8), .inl 9, .inr (.inl 3), .inl 4, .inl 5, .inl 6, .inr (.inl 8), .inl 9]) (r2 := [.inr (.inl 2), .inr (.inl 3), .inl 4, .inl 5, .inl 6, .inr (.inl 8), .inl 9]) rfl rfl ?_ ?_ rfl rfl
    · refine act_call rfl 14 _ _ rfl Try.call14 [.slice p n cap] rfl ?_
      refine (HN.out _ (HI.out.later (below_next HB3.out hq))).mono ?_
      rintro e' X ⟨rfl, hbX⟩
      have hqX := below_next hq hbX
      refine ⟨_, rfl, hqX, ?_⟩
      simp only [Act.put, List.setIfInBounds_toArray, List.set_cons_succ, List.set_cons_zero]
      refine wpPl_two (r1 := [.inl 4, .inl 5, .inl 6, .inr (.inl 7), .inr (.inl 8), .inl 9]) (r2 := [.inr (.inl 3), .inl 4, .inl 5, .inl 6, .inr (.inl 8), .inl 9]) rfl rfl ?_ ?_ rfl rfl
      · refine act_call rfl 16 _ _ rfl Try.call16 [.agg L, .agg (blk F)] rfl ?_
        refine (HD.out _).mono ?_
        rintro e' Y ⟨q, rfl, hdec, hbY⟩
        have hqY := below_next hqX hbY
        refine ⟨_, rfl, hqY, ?_⟩
        simp only [Act.put, List.setIfInBounds_toArray, List.set_cons_succ, List.set_cons_zero]
        refine wpPl_yield (v := .tuple #[.agg #[.slice q T.length T.length], .int .i64 E]) rfl rfl (fun u _ => by simp [execOp, Act.eval]) ?_
        simp only [Act.put, List.setIfInBounds_toArray, List.set_cons_succ, List.set_cons_zero]
        refine wpPl_yield (v := .agg #[.slice q T.length T.length]) rfl rfl (fun u _ => by go_simp) ?_
        simp only [Act.put, List.setIfInBounds_toArray, List.set_cons_succ, List.set_cons_zero]
        refine wpPl_yield (v := .int .i64 E) rfl rfl (fun u _ => by go_simp) ?_
        simp only [Act.put, List.setIfInBounds_toArray, List.set_cons_succ, List.set_cons_zero]
        refine wpPl_act rfl (act_makes rfl (exec_allocH rfl) (hqY.alloc hqY.size _) ?_)
        simp only [Act.put, List.setIfInBounds_toArray, List.set_cons_succ, List.set_cons_zero]
        have hgA := heap_alloc_new Y (.cells #[.slice none 0 0] 35)
        have hge := hqY.size
        have hqA : Below W3.heap.size W3 (Y.alloc (.cells #[.slice none 0 0] 35)) := hqY.alloc hqY.size _
        refine wpPl_act rfl (act_done rfl (exec_storeH rfl Y.heap.size (.slice q T.length T.length) _ rfl rfl rfl hgA) (below_setRow hqA hge _) ?_)
        simp only [Act.put]
        refine wpPl_yield (v := .int .i64 E) rfl rfl (fun u _ => by simp [execOp, Act.eval]) ?_
        simp only [Act.put, List.setIfInBounds_toArray, List.set_cons_succ, List.set_cons_zero]
        refine wpPl_done ?_
        have hZ := setRow_heap (Y.alloc (.cells #[.slice none 0 0] 35)) (Y.heap.size) #[.slice none 0 0] #[.slice q T.length T.length] 35 (0, 0) hgA
        have HZ : Hid (Below W3.heap.size W3 ((Y.alloc (.cells #[.slice none 0 0] 35)).setRow (Y.heap.size) #[.slice q T.length T.length])) := below_setRow hqA hge _
        have HZI : Hid (IntsAt ((Y.alloc (.cells #[.slice none 0 0] 35)).setRow (Y.heap.size) #[.slice q T.length T.length]) q T) := ints_setNe ((dec_ints hdec).later (below_new _ _)) (dec_ne hdec (.inr (Nat.le_refl _)))
        go_wp2_with fail
        go_meet
        case rel => exact ⟨_, q, rfl, rfl, hZ, HZI.out, HZ.out⟩
      · refine act_makes rfl (exec_allocH rfl) (hqX.alloc hqX.size _) ?_
        simp only [Act.put, List.setIfInBounds_toArray, List.set_cons_succ, List.set_cons_zero]
        have hgA := heap_alloc_new X (.cells #[.slice none 0 0] 35)
        have hge := hqX.size
        have hqA : Below W3.heap.size W3 (X.alloc (.cells #[.slice none 0 0] 35)) := hqX.alloc hqX.size _
        refine wpPl_act rfl ?_
        refine act_call rfl 16 _ _ rfl Try.call16 [.agg L, .agg (blk F)] rfl ?_
        refine (HD.out _).mono ?_
        rintro e' Y ⟨q, rfl, hdec, hbY⟩
        have hqY := below_next hqA hbY
        refine ⟨_, rfl, hqY, ?_⟩
        simp only [Act.put, List.setIfInBounds_toArray, List.set_cons_succ, List.set_cons_zero]
        refine wpPl_yield (v := .tuple #[.agg #[.slice q T.length T.length], .int .i64 E]) rfl rfl (fun u _ => by simp [execOp, Act.eval]) ?_
        simp only [Act.put, List.setIfInBounds_toArray, List.set_cons_succ, List.set_cons_zero]
        refine wpPl_yield (v := .agg #[.slice q T.length T.length]) rfl rfl (fun u _ => by go_simp) ?_
        simp only [Act.put, List.setIfInBounds_toArray, List.set_cons_succ, List.set_cons_zero]
        refine wpPl_yield (v := .int .i64 E) rfl rfl (fun u _ => by go_simp) ?_
        simp only [Act.put, List.setIfInBounds_toArray, List.set_cons_succ, List.set_cons_zero]
        refine wpPl_act rfl (act_done rfl (exec_storeH rfl X.heap.size (.slice q T.length T.length) _ rfl rfl rfl (heap_kept hgA hbY)) (below_setRow hqY hge _) ?_)
        simp only [Act.put]
        refine wpPl_yield (v := .int .i64 E) rfl rfl (fun u _ => by simp [execOp, Act.eval]) ?_
        simp only [Act.put, List.setIfInBounds_toArray, List.set_cons_succ, List.set_cons_zero]
        refine wpPl_done ?_
        have hZ := setRow_heap Y (X.heap.size) #[.slice none 0 0] #[.slice q T.length T.length] 35 (0, 0) (heap_kept hgA hbY)
        have HZ : Hid (Below W3.heap.size W3 (Y.setRow (X.heap.size) #[.slice q T.length T.length])) := below_setRow hqY hge _
        have HZI : Hid (IntsAt (Y.setRow (X.heap.size) #[.slice q T.length T.length]) q T) := ints_setNe (dec_ints hdec) (dec_ne hdec (.inl (by simp)))
        go_wp2_with fail
        go_meet
        case rel => exact ⟨_, q, rfl, rfl, hZ, HZI.out, HZ.out⟩
    · refine act_makes rfl (exec_allocH rfl) (hq.alloc hq.size _) ?_
      simp only [Act.put, List.setIfInBounds_toArray, List.set_cons_succ, List.set_cons_zero]
      have hgA := heap_alloc_new V (.cells #[.slice none 0 0] 35)
      have hge := hq.size
      have hqA : Below W3.heap.size W3 (V.alloc (.cells #[.slice none 0 0] 35)) := hq.alloc hq.size _
      refine wpPl_act rfl ?_
      refine act_call rfl 14 _ _ rfl Try.call14 [.slice p n cap] rfl ?_
      refine (HN.out _ (HI.out.later (below_next HB3.out hqA))).mono ?_
      rintro e' X ⟨rfl, hbX⟩
      have hqX := below_next hqA hbX
      refine ⟨_, rfl, hqX, ?_⟩
      simp only [Act.put, List.setIfInBounds_toArray, List.set_cons_succ, List.set_cons_zero]
      refine wpPl_act rfl ?_
      refine act_call rfl 16 _ _ rfl Try.call16 [.agg L, .agg (blk F)] rfl ?_
      refine (HD.out _).mono ?_
      rintro e' Y ⟨q, rfl, hdec, hbY⟩
      have hqY := below_next hqX hbY
      refine ⟨_, rfl, hqY, ?_⟩
      simp only [Act.put, List.setIfInBounds_toArray, List.set_cons_succ, List.set_cons_zero]
      refine wpPl_yield (v := .tuple #[.agg #[.slice q T.length T.length], .int .i64 E]) rfl rfl (fun u _ => by simp [execOp, Act.eval]) ?_
      simp only [Act.put, List.setIfInBounds_toArray, List.set_cons_succ, List.set_cons_zero]
      refine wpPl_yield (v := .agg #[.slice q T.length T.length]) rfl rfl (fun u _ => by go_simp) ?_
      simp only [Act.put, List.setIfInBounds_toArray, List.set_cons_succ, List.set_cons_zero]
      refine wpPl_yield (v := .int .i64 E) rfl rfl (fun u _ => by go_simp) ?_
      simp only [Act.put, List.setIfInBounds_toArray, List.set_cons_succ, List.set_cons_zero]
      refine wpPl_act rfl (act_done rfl (exec_storeH rfl V.heap.size (.slice q T.length T.length) _ rfl rfl rfl (heap_kept (heap_kept hgA hbX) hbY)) (below_setRow hqY hge _) ?_)
      simp only [Act.put]
      refine wpPl_yield (v := .int .i64 E) rfl rfl (fun u _ => by simp [execOp, Act.eval]) ?_
      simp only [Act.put, List.setIfInBounds_toArray, List.set_cons_succ, List.set_cons_zero]
      refine wpPl_done ?_
      have hZ := setRow_heap Y (V.heap.size) #[.slice none 0 0] #[.slice q T.length T.length] 35 (0, 0) (heap_kept (heap_kept hgA hbX) hbY)
      have HZ : Hid (Below W3.heap.size W3 (Y.setRow (V.heap.size) #[.slice q T.length T.length])) := below_setRow hqY hge _
      have HZI : Hid (IntsAt (Y.setRow (V.heap.size) #[.slice q T.length T.length]) q T) := ints_setNe (dec_ints hdec) (dec_ne hdec (.inl (by have := hbX.size; simp at this; omega)))
      go_wp2_with fail
      go_meet
      case rel => exact ⟨_, q, rfl, rfl, hZ, HZI.out, HZ.out⟩
  case rest =>
    obtain ⟨gH, q, rfl, rfl, hH, hint, hbc⟩ := hcut
    have hLc := heap_kept hL3 hbc
    have HBc : Hid (Below w.heap.size w wc) := HB3.out.trans (hbc.mono HB3.out.size)
    have HIT : Hid (IntsAt wc q T) := hint
    have hcH := cell_one hH
    have hgH : gH < wc.heap.size := (Array.getElem?_eq_some_iff.1 hH).1
    clear hbc HB3 hL3 hint HN HD HI
    rcases HM.out with ⟨rfl, rfl⟩ | ⟨rfl, hmay⟩
    · rw [List.length_nil] at hcH
      clear hH HM HIT HWh HWi HTu
      go_wp2
      go_ret
      exact ⟨rfl, HBc.out⟩
    · obtain ⟨t, ht⟩ : ∃ t, T.length = t := ⟨_, rfl⟩
      rw [ht] at hH hcH
      have HP : Hid (MayP (1 + l) b (l - 1) T ∧ T.length = t) := ⟨hmay, ht⟩
      have htl : (t : Int) ≤ l - 1 := by have := hmay.1; omega
      have hcl : wc.cell? ⟨gL, 1, none⟩ = some (.int .i64 l) := by rw [cell_of_row _ _ _ _ 26 _ hLc]; exact HL1.out
      have hgL : gL < wc.heap.size := (Array.getElem?_eq_some_iff.1 hLc).1
      clear ht hmay HM
      go_wp2
      go_loopw [10, 11, 12] (fun s10 _ _ wx => ∃ k : Nat, k ≤ t ∧ s10 = .int .i64 k ∧ Hid (Below wc.heap.size wc wx)) (fun s10 _ _ _ => t - (intOf s10).toNat)
      case atStart => exact ⟨0, by omega, rfl, Below.refl _ _⟩
      case round =>
        obtain ⟨k, hk, rfl, HW⟩ := hrel
        have hcr := (HW.out.cell (p := ⟨gH, 0, none⟩) hgH).trans hcH
        have hclr := (HW.out.cell (p := ⟨gL, 1, none⟩) hgL).trans hcl
        by_cases hk2 : (k : Int) < t
        · obtain ⟨hmay, htt⟩ := HP.out
          have hx : T[k]? = some T[k] := List.getElem?_eq_getElem (by omega)
          have hxm := List.getElem_mem (l := T) (n := k) (by omega)
          have hnod : ∀ j, j < k → ∀ x2, T[j]? = some x2 → x2 ≠ T[k] := fun j hj x2 h2 e => by
            have h3 := (List.getElem?_eq_some_iff.1 h2).2
            have := (List.pairwise_iff_getElem.1 hmay.2.2) j k (by omega) (by omega) hj
            exact this (h3.trans e)
          obtain ⟨b1, o1, rfl, l1, C1⟩ := HIT.out (by omega)
          obtain ⟨r, hr, hr3⟩ := HWi.out T[k] (hmay.2.1 _ hxm).1 (hmay.2.1 _ hxm).2
          have hcall := HWh.out T[k]
          rw [hr] at hcall
          generalize T[k] = x at *
          have q1 : wr.cell? ⟨b1, o1 + k, none⟩ = some (.int .i64 x) := (HW.out.cell (p := ⟨b1, o1 + k, none⟩) l1).trans (C1 k x hx)
          have HC1 : Hid (∀ j, j < k → ∃ x2, (x2 == x) = false ∧ wc.cell? ⟨b1, o1 + j, none⟩ = some (.int .i64 x2)) := fun j hj => by
            have h2 : T[j]? = some T[j] := List.getElem?_eq_getElem (by omega)
            exact ⟨T[j], by simpa using hnod j hj _ h2, C1 j _ h2⟩
          have hb1 : b1 < wr.heap.size := Nat.lt_of_lt_of_le l1 HW.out.size
          have hgHr : gH < wr.heap.size := Nat.lt_of_lt_of_le hgH HW.out.size
          have hLr := heap_kept hLc HW.out
          have Hcall : Hid _ := hcall
          clear C1 hnod hx hxm hmay htt hcall hr
          go_wp2
          refine wp_region_plan (S := fun u => Below wr.heap.size wr u) 8 [.inl 0, .inl 1, .inl 2, .inl 3, .inl 4, .inl 5, .inr (.inl 6), .inl 7] (by kernel_rfl) rfl (by kernel_rfl) (fun d _ _ _ _ h => by cases d <;> exact h) (drew_below wr) ?_
          refine wpPl_yield (v := .agg L) rfl rfl (fun u hu => by exact exec_loadL rfl rfl hsz (heap_kept hLr hu)) ?_
          simp only [Act.put, List.setIfInBounds_toArray, List.set_cons_succ, List.set_cons_zero]
          refine wpPl_yield (v := .pointer (some ⟨gH, 0, none⟩)) rfl rfl (fun u _ => by go_simp) ?_
          simp only [Act.put, List.setIfInBounds_toArray, List.set_cons_succ, List.set_cons_zero]
          refine wpPl_yield (v := .slice (some ⟨b1, o1, none⟩) t t) rfl rfl (fun u hu => by have q := (Below.cell hu (p := ⟨gH, 0, none⟩) hgHr).trans hcr; go_simp) ?_
          simp only [Act.put, List.setIfInBounds_toArray, List.set_cons_succ, List.set_cons_zero]
          refine wpPl_yield (v := .int .i64 (k : Int)) rfl rfl (fun u _ => by simp [execOp, Act.eval]) ?_
          simp only [Act.put, List.setIfInBounds_toArray, List.set_cons_succ, List.set_cons_zero]
          refine wpPl_yield (v := .pointer (some ⟨b1, o1 + k, none⟩)) rfl rfl (fun u _ => by go_simp) ?_
          simp only [Act.put, List.setIfInBounds_toArray, List.set_cons_succ, List.set_cons_zero]
          refine wpPl_yield (v := .int .i64 x) rfl rfl (fun u hu => by have q := (Below.cell hu (p := ⟨b1, o1 + k, none⟩) hb1).trans q1; go_simp) ?_
          simp only [Act.put, List.setIfInBounds_toArray, List.set_cons_succ, List.set_cons_zero]
          refine wpPl_act rfl (act_call rfl 24 _ _ rfl Try.call24 [.agg L, .int .i64 x] rfl ?_)
          refine (Hcall.out _).mono ?_
          rintro e' V ⟨rfl, hbv⟩
          have hqv := below_next (drew_below wr) hbv
          refine ⟨_, rfl, hqv, ?_⟩
          simp only [Act.put, List.setIfInBounds_toArray, List.set_cons_succ, List.set_cons_zero]
          refine wpPl_yield (v := .int .u8 r) rfl rfl (fun u _ => by simp [execOp, Act.eval]) ?_
          simp only [Act.put, List.setIfInBounds_toArray, List.set_cons_succ, List.set_cons_zero]
          refine wpPl_done ?_
          have hcV := (hqv.cell (p := ⟨gH, 0, none⟩) hgHr).trans hcr
          have hqV := (hqv.cell (p := ⟨b1, o1 + k, none⟩) hb1).trans q1
          have HWV : Hid (Below wc.heap.size wc V) := HW.out.trans (hqv.mono HW.out.size)
          have hbV : b1 < V.heap.size := Nat.lt_of_lt_of_le hb1 hqv.size
          have hgV : gH < V.heap.size := Nat.lt_of_lt_of_le hgHr hqv.size
          clear hbv hqv Hcall q1 hb1 hgHr hLr hcr hclr HW
          rcases hr3 with rfl | rfl | rfl
          all_goals
            go_wp2
            go_loopw [12] (fun s12 wx => ∃ j : Nat, j ≤ k ∧ s12 = .int .i64 j ∧ Hid (Below V.heap.size V wx)) (fun s12 _ => k - (intOf s12).toNat)
            case atStart => exact ⟨0, by omega, rfl, Below.refl _ _⟩
            case round =>
              obtain ⟨j, hj, rfl, HJ⟩ := hrel
              have HR : Hid (Below wc.heap.size wc wr) := HWV.out.trans (HJ.out.mono HWV.out.size)
              by_cases hj2 : (j : Int) < k
              · obtain ⟨x2, hne, hc2⟩ := HC1.out j (by omega)
                have q2 := (HR.out.cell (p := ⟨b1, o1 + j, none⟩) (by exact l1)).trans hc2
                have q3 := (HJ.out.cell (p := ⟨b1, o1 + k, none⟩) hbV).trans hqV
                have q4 := (HJ.out.cell (p := ⟨gH, 0, none⟩) hgV).trans hcV
                clear hc2
                go_wp2
                have q2d : wr.drew.cell? ⟨b1, o1 + j, none⟩ = some (.int .i64 x2) := q2
                have q3d : wr.drew.cell? ⟨b1, o1 + k, none⟩ = some (.int .i64 x) := q3
                have q4d : wr.drew.cell? ⟨gH, 0, none⟩ = some (.slice (some ⟨b1, o1, none⟩) t t) := q4
                refine wp_region_plan (S := fun u => u = wr.drew) 11 [.inl 0, .inl 1, .inl 2, .inl 3, .inl 4, .inl 5, .inl 6, .inl 7, .inl 8, .inl 9, .inl 10] (by kernel_rfl) rfl (by kernel_rfl) (fun d _ _ _ _ h => by cases d <;> exact h) rfl ?_
                refine wpPl_yield (v := .pointer (some ⟨gH, 0, none⟩)) rfl rfl (fun u hu => by subst hu; go_simp) ?_
                simp only [Act.put, List.setIfInBounds_toArray, List.set_cons_succ, List.set_cons_zero]
                refine wpPl_yield (v := .slice (some ⟨b1, o1, none⟩) t t) rfl rfl (fun u hu => by subst hu; go_simp) ?_
                simp only [Act.put, List.setIfInBounds_toArray, List.set_cons_succ, List.set_cons_zero]
                refine wpPl_yield (v := .int .i64 (j : Int)) rfl rfl (fun u _ => by simp [execOp, Act.eval]) ?_
                simp only [Act.put, List.setIfInBounds_toArray, List.set_cons_succ, List.set_cons_zero]
                refine wpPl_yield (v := .pointer (some ⟨b1, o1 + j, none⟩)) rfl rfl (fun u hu => by subst hu; go_simp; intro h; omega) ?_
                simp only [Act.put, List.setIfInBounds_toArray, List.set_cons_succ, List.set_cons_zero]
                refine wpPl_yield (v := .int .i64 x2) rfl rfl (fun u hu => by subst hu; go_simp) ?_
                simp only [Act.put, List.setIfInBounds_toArray, List.set_cons_succ, List.set_cons_zero]
                refine wpPl_yield (v := .pointer (some ⟨gH, 0, none⟩)) rfl rfl (fun u hu => by subst hu; go_simp) ?_
                simp only [Act.put, List.setIfInBounds_toArray, List.set_cons_succ, List.set_cons_zero]
                refine wpPl_yield (v := .slice (some ⟨b1, o1, none⟩) t t) rfl rfl (fun u hu => by subst hu; go_simp) ?_
                simp only [Act.put, List.setIfInBounds_toArray, List.set_cons_succ, List.set_cons_zero]
                refine wpPl_yield (v := .int .i64 (k : Int)) rfl rfl (fun u _ => by simp [execOp, Act.eval]) ?_
                simp only [Act.put, List.setIfInBounds_toArray, List.set_cons_succ, List.set_cons_zero]
                refine wpPl_yield (v := .pointer (some ⟨b1, o1 + k, none⟩)) rfl rfl (fun u hu => by subst hu; go_simp) ?_
                simp only [Act.put, List.setIfInBounds_toArray, List.set_cons_succ, List.set_cons_zero]
                refine wpPl_yield (v := .int .i64 x) rfl rfl (fun u hu => by subst hu; go_simp) ?_
                simp only [Act.put, List.setIfInBounds_toArray, List.set_cons_succ, List.set_cons_zero]
                refine wpPl_yield (v := .bool false) rfl rfl (fun u hu => by subst hu; go_simp) ?_
                simp only [Act.put, List.setIfInBounds_toArray, List.set_cons_succ, List.set_cons_zero]
                refine wpPl_done ?_
                have HJ2 : Hid (Below V.heap.size V wr.drew) := HJ.out.drew
                clear q2 q3 q4 q2d q3d q4d HJ HR
                go_wp2
                exact ⟨⟨j + 1, by omega, by go_num, HJ2.out⟩, by simp [intOf]; omega⟩
              · obtain rfl : j = k := by omega
                go_wp2
                exact ⟨⟨j + 1, by omega, by go_num, HR.out⟩, by simp [intOf]; omega⟩
        · obtain rfl : k = t := by omega
          have g5 : decide ((k : Int) < l) = true := decide_eq_true (by omega)
          have HBr : Hid (Below w.heap.size w wr) := HBc.out.trans (HW.out.mono HBc.out.size)
          clear HW HP
          go_wp2
          go_ret
          exact ⟨rfl, HBr.out⟩
theorem law_regions {w : World} (b l i : Int) (hb : I64 b) (_ : I64 l) (_ : I64 i) (ws : List Int) (p : Option Addr) (cap : Nat) (hlen : ws.length < 9223372036854775807) (hws : WordsAt w p ws) (hwf : ∀ x ∈ ws, (Lit.int .u32 x).wf = true) :
    Calls Try.prog 6 #[geoV b l i, .slice p ws.length cap] w fun e W => e = .returned (.bool true) ∧ Below w.heap.size w W := by
  by_cases hf : Fine b l i
  · exact regions_fine b l i ws p cap _ hf hlen hws (fun x hx => by have := bounds_u32 (hwf x hx); exact ⟨by omega, by omega⟩)
  · exact regions_not b l i _ _ hb hf
end Go.Proofs.Ytgkhheblmknedaa
